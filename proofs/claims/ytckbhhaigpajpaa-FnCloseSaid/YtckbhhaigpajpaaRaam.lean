/- It is proved what CoverClubs of the program returns; conditions: those of each statement. -/
import Derived.RowKit
import Derived.Laws.CopyRow
import Derived.Lib.SlBuf
import Derived.Deep.QuietTactic
import Derived.RangeFuncNested
import Derived.RangeFuncBound
import Derived.RangeFuncCalls
import Derived.RangeFuncLeaves
import Derived.RangeFuncBox
import Derived.RangeFuncWrites
import Derived.StillTailTactics
import Derived.Maps.OwnIn
import Derived.Maps.Ext
import Derived.DeepKeys4
import Derived.MapKept
import Derived.Test.YtckbhhaigpajpaaRows
import Derived.WalkKit
import Derived.WalkSpells
import Derived.ProofKit
import Derived.OpenShut
import Derived.ShutString
import Derived.ChangeOld
import Derived.Below
import Derived.Deep.RegionHeld3
import Derived.BigQuiet
import Derived.Lib.Hide
import Derived.Lib.SmallJoins
import Derived.Outline
import Derived.Laws.MakeOwn
import Derived.Laws.OwnMore
import Derived.IntWalk
import Derived.Maps.AppendAt
import Derived.Deep.RegionLaw
import Derived.Deep.AppendLies
import Derived.Lib.AppendZeros
import Derived.OwnWalk
import Derived.Lib.SlicesCompact
import Derived.Lib.OwnBridge
import Derived.OrdersIn
import Derived.TacticsIn
import Derived.Shelf.Sort.Plain
import Derived.Shelf.Slices.In.SortNone
import Derived.Shelf.Slices.CompactI
import Derived.Ground.Names2Prog
import Derived.Lib.SliceRun
import Derived.Shelf.Abstract
import Derived.Shelf.RegionOpen
import Derived.OwnWalkIn
import Derived.TacticsInMore
import Derived.LoopNIn
import Derived.LoopIn
import Derived.StillTail
import Derived.StillTactics
import Derived.Shelf.Spec.TrailingZeros
import Derived.Test.YtckbhhaigpajpaaRaac
import Derived.Deep.DeepCutAuto
import Derived.Deep.RegionWith
import Derived.Orders
import Derived.Tactics
namespace Go.Proofs.Ytckbhhaigpajpaa
open Go.RowKit Go.Shelf

attribute [local go_sem] Oper.semAt_some

theorem KeepsOthers.of_below {W W' : World} (h : Below W.heap.size W W') : KeepsOthers W W' := ⟨h.size, fun k _ hk _ => (h.block k (lt_of_some hk)).trans hk⟩
end Go.Proofs.Ytckbhhaigpajpaa

/- It is proved that two families drawn from bytes can be read; conditions: those of each statement. -/
namespace Go.Proofs.Ytckbhhaigpajpaa
open Go.RowKit

section
variable {w : World} {P X5 : Nat} {m : Int} {a : Option Addr} {xs : List Int} {c : Nat} {ra : Option Addr} {rn rc : Nat} {W W' : World}
end
theorem HasBlk.set2 {W : World} {b : Nat} {x y : Value} {t : TypeId} (h : HasBlk W b #[x, y] t) (u v : Value) : HasBlk ((W.setCell ⟨b, 0, none⟩ u).setCell ⟨b, 1, none⟩ v) b #[u, v] t :=
  heap_setCell_same _ b 1 _ t v (heap_setCell_same W b 0 _ t u h)

end Go.Proofs.Ytckbhhaigpajpaa

/- It is proved what l2Own returns; conditions: those of each statement. -/
namespace Go.Proofs.Ytckbhhaigpajpaa
open Go.RowKit Go.Shelf

theorem field_fam (x0 : Int) (a : Option Addr) (n c : Nat) (w : World) : (Instr.field 25 (.agg #[.int .i64 x0, .slice a n c]) 1).run Try.prog w = .ok (.slice a n c) w := by kernel_rfl
end Go.Proofs.Ytckbhhaigpajpaa

/- It is proved that a region that draws its order may be walked one operation at a time where what each operation gives does not hang on the order; conditions: those of each statement. -/
namespace Go
section
variable {F : Fence} {n : Nat} {P : Program} {ops : Array Oper} {Q : Exit → Act → World → Prop} {md : Region.Mode}

/-- Q, but K where nothing jumps. -/
def UponK (K : Act → World → Prop) (Q : Exit → Act → World → Prop) : Exit → Act → World → Prop
  | .normal, a, w => K a w
  | .ret, a, w => Q .ret a w
  | .exit i, a, w => Q (.exit i) a w
  | .goto t, a, w => Q (.goto t) a w
  | .panic c, a, w => Q (.panic c) a w
  | .outgrown, a, w => Q .outgrown a w

theorem Oper.wpIn_uponK {o : Oper} {a : Act} {w : World} {K K' : Act → World → Prop} (hh : o.wpIn F n P a w K (UponK K' Q)) : o.wpIn F n P a w K Q := by
  unfold Oper.wpIn at *
  refine ⟨hh.1, ?_⟩
  have hh := hh.2
  generalize (o.semAt F.round a.eval).run P w = r at *
  cases r with
  | ok x w' =>
    cases x <;> simp only [Oper.uponIn] at hh ⊢ <;>
      first
        | exact hh
        | exact ⟨hh.1, CallsIn.mono hh.2 (fun e w'' he => by cases e <;> exact he)⟩
        | exact ⟨hh.1, RoundIn.mono hh.2 (fun e w'' he => by cases e <;> exact he)⟩
  | halt x w' => cases x <;> simp only [Oper.uponIn] at hh ⊢ <;> exact hh

def masks : Nat → List (List Bool)
  | 0 => [[]]
  | k + 1 => (masks k).flatMap fun m => [false :: m, true :: m]

/-- Where no operation may come next, all have come. -/
def Region.endsB (md : Region.Mode) (ops : Array Oper) : Bool := (masks ops.size).all fun l => !(Region.ready md ops l.toArray).isEmpty || l.all id

theorem count_set : ∀ (l : List Bool) (i : Nat), l[i]? = some false → (l.set i true).count false + 1 = l.count false
  | [], i, h => by simp at h
  | b :: l, 0, h => by simp at h; subst h; simp
  | b :: l, i + 1, h => by
    have := count_set l i (by simpa using h)
    cases b <;> simp [List.count_cons] <;> omega

end
end Go

/- It is proved that a region of a plain function that draws its order may be walked one operation at a time by a relation that each operation keeps; conditions: those of each statement. -/
namespace Go
section
variable {P : Program} {ops : Array Oper} {Q : Exit → Act → World → Prop} {md : Region.Mode}

theorem letsOut_uponK {K : Act → World → Prop} (h : LetsOut (UponK K Q)) : LetsOut Q := h
theorem Oper.wp_uponK {o : Oper} {a : Act} {w : World} {K K' : Act → World → Prop} (hh : o.wp P a w K (UponK K' Q)) : o.wp P a w K Q := by
  unfold Oper.wp at *
  generalize (execOp a.eval o).run P w = r at *
  cases r with
  | ok n w' =>
    cases n <;> simp only [Oper.upon] at hh ⊢ <;>
      first
        | exact hh
        | exact Calls.mono hh (fun e w'' he => by cases e <;> exact he)
  | halt x w' => cases x <;> simp only [Oper.upon] at hh ⊢ <;> exact hh

theorem wpOp_of_list {i : Nat} {o : Oper} {a : Act} {w : World} {K : Act → World → Prop} (ho : ops[i]? = some o) (h : wpList P ops (UponK K Q) [o] a w) : wpOp P ops Q i K a w := by
  unfold wpOp
  simp only [ho]
  unfold wpList at h
  split
  · rename_i hw
    simp only [hw, if_true] at h
    exact h.imp Oper.wp_uponK (fun h2 => ⟨h2.1, letsOut_uponK h2.2⟩)
  · rename_i hw; simp only [hw] at h; exact h

/-- Each operation waits only for operations ahead of it. -/
def Region.upB (md : Region.Mode) (ops : Array Oper) : Bool := (List.range ops.size).all fun i => ((ops[i]?).map fun o => o.after.all fun e => !Region.binds md e || decide (e.on < i)).getD true

theorem ready_none (hup : Region.upB md ops = true) {listed : Array Bool} (hs : listed.size = ops.size) (h0 : Region.ready md ops listed = []) : listed.toList.all id = true := by
  have key : ∀ i, i < ops.size → listed.getD i false = true := by
    intro i
    induction i using Nat.strongRecOn with
    | _ i ih =>
      intro hi
      apply Decidable.byContradiction
      intro hn
      have hl : i < listed.size := by omega
      have h1 : listed.getD i true = false := by
        simp only [Array.getD, hl, dif_pos] at hn ⊢
        simpa using hn
      have ho : ops[i]? = some ops[i] := by simp [hi]
      have h2 := List.all_eq_true.1 hup i (List.mem_range.2 hi)
      rw [ho] at h2
      simp only [Option.map_some, Option.getD_some, Array.all_eq_true] at h2
      have hm : i ∈ Region.ready md ops listed := by
        unfold Region.ready
        rw [List.mem_filter]
        refine ⟨List.mem_range.2 hi, ?_⟩
        rw [h1, ho]
        simp only [Option.map_some, Option.getD_some, Bool.not_false, Bool.true_and, Array.all_eq_true]
        intro j hj
        have h3 := h2 j hj
        rw [Bool.or_eq_true] at h3 ⊢
        rcases h3 with h3 | h3
        · exact .inl h3
        · have h4 := of_decide_eq_true h3
          exact .inr (ih _ h4 (by omega))
      rw [h0] at hm
      cases hm
  rw [List.all_eq_true]
  intro x hx
  obtain ⟨i, hi, rfl⟩ := List.mem_iff_getElem.1 hx
  have hi' : i < listed.size := by simpa using hi
  have := key i (by omega)
  simp only [Array.getD, hi', dif_pos] at this
  simpa using this

theorem wpAny_kept {I : Array Bool → Act → World → Prop} (hends : ∀ listed, listed.size = ops.size → Region.ready md ops listed = [] → listed.toList.all id = true)
    (hstep : ∀ listed a w i, listed.size = ops.size → i ∈ Region.ready md ops listed → I listed a w → wpOp P ops Q i (fun a' w' => I (listed.setIfInBounds i true) a' w') a w)
    (hend : ∀ listed a w, listed.size = ops.size → (listed.toList.all id) = true → I listed a w → Q .normal a w) :
    ∀ fuel listed a w, listed.size = ops.size → listed.toList.count false ≤ fuel → I listed a w → wpAny P md ops Q fuel listed a w
  | 0, listed, a, w, hs, hc, hS => by
    have hall : listed.toList.all id = true := by
      rw [List.all_eq_true]
      intro x hx
      cases x
      · have := List.count_pos_iff.2 hx; omega
      · rfl
    refine ⟨?_, hend listed a w hs hall hS⟩
    unfold Region.ready
    rw [List.filter_eq_nil_iff]
    intro i hi
    rw [List.mem_range] at hi
    have hi' : i < listed.size := by omega
    have : listed.getD i true = true := by
      have h1 := List.all_eq_true.1 hall listed[i] (by simp)
      simp only [id] at h1
      simp [Array.getD, hi', h1]
    simp [this]
  | fuel + 1, listed, a, w, hs, hc, hS => by
    refine ⟨fun h0 => hend listed a w hs (hends listed hs h0) hS, fun i hi => ?_⟩
    refine wpOp_mono ?_ (hstep listed a w i hs hi hS)
    intro a' w' hS'
    refine wpAny_kept hends hstep hend fuel _ a' w' (by simpa using hs) ?_ hS'
    have hu : listed.toList[i]? = some false := by
      unfold Region.ready at hi
      rw [List.mem_filter, Bool.and_eq_true, List.mem_range] at hi
      have hi' : i < listed.size := by omega
      have := hi.2.1
      simp [Array.getD, hi'] at this
      simp [hi', this]
    have := count_set listed.toList i hu
    simp only [Array.toList_setIfInBounds]
    omega

theorem wp_region_kept {I : Array Bool → Act → World → Prop} {id' : Nat} {a : Act} {w : World} (hm : P.follows .mixedOrders = true) (hup : Region.upB .any ops = true)
    (hS : I (Array.replicate ops.size false) a { w with drawn := w.drawn + 1 })
    (hstep : ∀ listed a w i, listed.size = ops.size → i ∈ Region.ready .any ops listed → I listed a w → wpOp P ops Q i (fun a' w' => I (listed.setIfInBounds i true) a' w') a w)
    (hend : ∀ listed a w, listed.size = ops.size → (listed.toList.all id) = true → I listed a w → Q .normal a w) : (Code.region id' ops true).wp P Q a w :=
  wp_region_any hm (wpAny_kept (fun _ hs h0 => ready_none hup hs h0) hstep hend ops.size _ _ _ (by simp) (by simp) hS)

end
end Go

/- It is proved what the FamilySimple of the model returns; conditions: the bounds in each statement. -/
namespace Go.Proofs.Ytckbhhaigpajpaa
open Go.RowKit

/-- What a function of the clubs comes to. -/
def famF (c : Bool) (f : List Int → List Int) (zs : List Int) : List Int := if c then f zs else []

end Go.Proofs.Ytckbhhaigpajpaa

/- It is proved what wantedBy and atLeast return; conditions: those of each statement. -/
namespace Go.Proofs.Ytckbhhaigpajpaa
open Go.RowKit Go.Shelf

def z5 : Array Value := #[Value.int IntKind.i64 0, Value.int IntKind.i64 0, Value.int IntKind.i64 0, Value.int IntKind.i64 0, Value.int IntKind.i64 0]
end Go.Proofs.Ytckbhhaigpajpaa
