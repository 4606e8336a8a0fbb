/- It is proved that the calls of exact laws of speakers return true, given what the two functions return; conditions: those of each statement. -/
import Derived.Test.YtnkedijlddakbaaDoorRows
import Derived.WalkKit
import Derived.WalkSpells
import Derived.ProofKit
import Derived.OpenShut
import Derived.ShutString
import Derived.ChangeOld
import Derived.Below
import Derived.Deep.RegionHeld3
import Derived.Deep.QuietTactic
import Derived.BigQuiet
import Derived.Lib.Hide
import Derived.Lib.SmallJoins
import Derived.Outline
import Derived.Laws.MakeOwn
import Derived.Laws.OwnMore
import Derived.IntWalk
import Derived.RangeFuncNested
import Derived.RangeFuncBound
import Derived.RangeFuncCalls
import Derived.RangeFuncLeaves
import Derived.RangeFuncBox
import Derived.Shelf.Abstract
import Derived.Shelf.RegionOpen
import Derived.OwnWalkIn
import Derived.TacticsInMore
import Derived.LoopNIn
import Derived.LoopIn
import Derived.Maps.AppendAt
import Derived.Shelf.Spec.TrailingZeros
import Derived.Test.YtnkedijlddakbaaDoorMraa
import Derived.Test.YtnkedijlddakbaaDoorMrab
import Derived.Test.YtnkedijlddakbaaDoorMrac
import Derived.Lib.AppendZeros
import Derived.Deep.AppendLies
import Derived.OwnWalk
namespace Go.Proofs.YtnkedijlddakbaaDoor
open Go.RowKit

set_option maxRecDepth 100000 in
set_option maxHeartbeats 4000000 in
theorem walkSpeakerBad (m : Int) (a : Option Addr) (cap : Nat) (zs : List Int) (r : Int) (ok : Bool) (w : World) (ha : Ints w w.heap.size a zs) (hn : zs.length ≤ 1048576)
    (hS : ∀ a cap W, Ints W W.heap.size a zs → Calls Tryd.prog 11 #[.agg #[.int .i64 m, .slice a zs.length cap]] W (RetIB W r ok))
    (hT : Tab w) (hI : ∀ a cap W, Ints W W.heap.size a zs → Tab W → Calls Tryd.prog 10 #[.agg #[.int .i64 m, .slice a zs.length cap]] W (RetIB W r ok)) :
    Calls Tryd.prog 6 #[.agg #[.int .i64 m, .slice a zs.length cap]] w fun e w' => e = .returned (.bool true) ∧ Below w.heap.size w w' := by
  have HS := Lib.hid hS
  have HI := Lib.hid hI
  have HT := Lib.hid hT
  have S0 := AF.start w m a cap zs ha
  clear hS hI hT
  cases ok
  all_goals
    go_enter Tryd.func6, Tryd.ntmps6
    go_wp2_with fail
    refine (szFamily_any _ _ _ _ _ _ (by omega) (by omega) (by omega)).mono ?_
    rintro e w0 ⟨rfl, hb0⟩
    rw [if_neg (by omega)]
    have S1 := S0.step hb0
    clear S0 hb0
    have x0 := S1.x0
    have x1 := S1.x1
    go_wp2_with fail
    refine (toFamily_any _ _ _ zs _ S1.old hn).mono ?_
    rintro e w1 ⟨a1, c1, rfl, ho1, hb1⟩
    have S2 := S1.step hb1
    clear S1 hb1 x0 x1
    go_wp2_with fail
    refine (HS.out _ _ _ (own_ints ho1)).mono ?_
    rintro e w2 ⟨rfl, hb2⟩
    have S3 := S2.step hb2
    have x0 := S3.x0
    have x1 := S3.x1
    clear S2 hb2 ho1
    go_wp2_with fail
    refine (toFamily_any _ _ _ zs _ S3.old hn).mono ?_
    rintro e w4 ⟨a4, c4, rfl, ho4, hb4⟩
    have X5 := XB.start (m := m) ho4
    have S5 := (S3.step hb4).step (below1 w4 (.cells #[.int .i64 m, .slice a4 zs.length c4] 25))
    clear S3 hb4 ho4 x0 x1
    go_wp2_with fail
    refine (HI.out _ _ _ X5.ints (HT.out.below S5.below HT.out.lt)).mono ?_
    rintro e w6 ⟨rfl, hb6⟩
    have X8 := X5.step hb6
    have S8 := S5.step hb6
    clear S5 X5 hb6
    have x0 := S8.x0
    have x1 := S8.x1
    have y0 := X8.x0
    have y1 := X8.x1
    go_wp2_with fail
    have Sd := S8.drew
    have Xd := X8.drew
    clear S8 X8
    go_region_held3 (fun w' => w'.cell? ⟨w.heap.size, 0, none⟩ = some (.int .i64 m) ∧ w'.cell? ⟨w.heap.size, 1, none⟩ = some (.slice a zs.length cap) ∧ w'.cell? ⟨w4.heap.size, 0, none⟩ = some (.int .i64 m) ∧ w'.cell? ⟨w4.heap.size, 1, none⟩ = some (.slice a4 zs.length c4) ∧ Below w.heap.size w w')
      (first
        | exact ⟨Sd.x0, Sd.x1, Xd.x0, Xd.x1, Sd.below⟩
        | exact ⟨(Sd.step hb9).x0, (Sd.step hb9).x1, (Xd.step hb9).x0, (Xd.step hb9).x1, (Sd.step hb9).below⟩
        | exact ⟨((Sd.step hb9).step hb10).x0, ((Sd.step hb9).step hb10).x1, ((Xd.step hb9).step hb10).x0, ((Xd.step hb9).step hb10).x1, ((Sd.step hb9).step hb10).below⟩)
      (first
        | (go_at_call 23; refine (toFamily_any _ _ _ zs _ Sd.old hn).mono ?_; rintro e w9 ⟨a9, c9, rfl, ho9, hb9⟩)
        | (go_at_call 24; refine (eqFamily_any _ _ _ _ _ _ zs zs _ (Xd.step hb9).ints (own_ints ho9) hn hn).mono ?_; rintro e w10 ⟨rfl, hb10⟩; rw [sameF_self]))
    rename_i hHeld
    have HD := Lib.hid hHeld.2.2.2.2
    clear hHeld
    go_wp2
    go_ret
    exact ⟨rfl, HD.out⟩

set_option maxRecDepth 100000 in
set_option maxHeartbeats 4000000 in
theorem walkSpeakerPairs (m : Int) (a : Option Addr) (cap : Nat) (zs : List Int) (r : Int) (ok : Bool) (w : World) (ha : Ints w w.heap.size a zs) (hn : zs.length ≤ 1048576)
    (hS : ∀ a cap W, Ints W W.heap.size a zs → Calls Tryd.prog 15 #[.agg #[.int .i64 m, .slice a zs.length cap]] W (RetIB W r ok))
    (hT : Tab w) (hI : ∀ a cap W, Ints W W.heap.size a zs → Tab W → Calls Tryd.prog 14 #[.agg #[.int .i64 m, .slice a zs.length cap]] W (RetIB W r ok)) :
    Calls Tryd.prog 7 #[.agg #[.int .i64 m, .slice a zs.length cap]] w fun e w' => e = .returned (.bool true) ∧ Below w.heap.size w w' := by
  have HS := Lib.hid hS
  have HI := Lib.hid hI
  have HT := Lib.hid hT
  have S0 := AF.start w m a cap zs ha
  clear hS hI hT
  cases ok
  all_goals
    go_enter Tryd.func7, Tryd.ntmps7
    go_wp2_with fail
    refine (szFamily_any _ _ _ _ _ _ (by omega) (by omega) (by omega)).mono ?_
    rintro e w0 ⟨rfl, hb0⟩
    rw [if_neg (by omega)]
    have S1 := S0.step hb0
    clear S0 hb0
    have x0 := S1.x0
    have x1 := S1.x1
    go_wp2_with fail
    refine (toFamily_any _ _ _ zs _ S1.old hn).mono ?_
    rintro e w1 ⟨a1, c1, rfl, ho1, hb1⟩
    have S2 := S1.step hb1
    clear S1 hb1 x0 x1
    go_wp2_with fail
    refine (HS.out _ _ _ (own_ints ho1)).mono ?_
    rintro e w2 ⟨rfl, hb2⟩
    have S3 := S2.step hb2
    have x0 := S3.x0
    have x1 := S3.x1
    clear S2 hb2 ho1
    go_wp2_with fail
    refine (toFamily_any _ _ _ zs _ S3.old hn).mono ?_
    rintro e w4 ⟨a4, c4, rfl, ho4, hb4⟩
    have X5 := XB.start (m := m) ho4
    have S5 := (S3.step hb4).step (below1 w4 (.cells #[.int .i64 m, .slice a4 zs.length c4] 25))
    clear S3 hb4 ho4 x0 x1
    go_wp2_with fail
    refine (HI.out _ _ _ X5.ints (HT.out.below S5.below HT.out.lt)).mono ?_
    rintro e w6 ⟨rfl, hb6⟩
    have X8 := X5.step hb6
    have S8 := S5.step hb6
    clear S5 X5 hb6
    have x0 := S8.x0
    have x1 := S8.x1
    have y0 := X8.x0
    have y1 := X8.x1
    go_wp2_with fail
    have Sd := S8.drew
    have Xd := X8.drew
    clear S8 X8
    go_region_held3 (fun w' => w'.cell? ⟨w.heap.size, 0, none⟩ = some (.int .i64 m) ∧ w'.cell? ⟨w.heap.size, 1, none⟩ = some (.slice a zs.length cap) ∧ w'.cell? ⟨w4.heap.size, 0, none⟩ = some (.int .i64 m) ∧ w'.cell? ⟨w4.heap.size, 1, none⟩ = some (.slice a4 zs.length c4) ∧ Below w.heap.size w w')
      (first
        | exact ⟨Sd.x0, Sd.x1, Xd.x0, Xd.x1, Sd.below⟩
        | exact ⟨(Sd.step hb9).x0, (Sd.step hb9).x1, (Xd.step hb9).x0, (Xd.step hb9).x1, (Sd.step hb9).below⟩
        | exact ⟨((Sd.step hb9).step hb10).x0, ((Sd.step hb9).step hb10).x1, ((Xd.step hb9).step hb10).x0, ((Xd.step hb9).step hb10).x1, ((Sd.step hb9).step hb10).below⟩)
      (first
        | (go_at_call 23; refine (toFamily_any _ _ _ zs _ Sd.old hn).mono ?_; rintro e w9 ⟨a9, c9, rfl, ho9, hb9⟩)
        | (go_at_call 24; refine (eqFamily_any _ _ _ _ _ _ zs zs _ (Xd.step hb9).ints (own_ints ho9) hn hn).mono ?_; rintro e w10 ⟨rfl, hb10⟩; rw [sameF_self]))
    rename_i hHeld
    have HD := Lib.hid hHeld.2.2.2.2
    clear hHeld
    go_wp2
    go_ret
    exact ⟨rfl, HD.out⟩

set_option maxRecDepth 100000 in
set_option maxHeartbeats 4000000 in
theorem walkSpeakerBlocked (m : Int) (a : Option Addr) (cap : Nat) (zs : List Int) (r : Int) (ok : Bool) (w : World) (ha : Ints w w.heap.size a zs) (hn : zs.length ≤ 1048576)
    (hS : ∀ a cap W, Ints W W.heap.size a zs → Calls Tryd.prog 19 #[.agg #[.int .i64 m, .slice a zs.length cap]] W (RetIB W r ok))
    (hT : Tab w) (hI : ∀ a cap W, Ints W W.heap.size a zs → Tab W → Calls Tryd.prog 18 #[.agg #[.int .i64 m, .slice a zs.length cap]] W (RetIB W r ok)) :
    Calls Tryd.prog 8 #[.agg #[.int .i64 m, .slice a zs.length cap]] w fun e w' => e = .returned (.bool true) ∧ Below w.heap.size w w' := by
  have HS := Lib.hid hS
  have HI := Lib.hid hI
  have HT := Lib.hid hT
  have S0 := AF.start w m a cap zs ha
  clear hS hI hT
  cases ok
  all_goals
    go_enter Tryd.func8, Tryd.ntmps8
    go_wp2_with fail
    refine (szFamily_any _ _ _ _ _ _ (by omega) (by omega) (by omega)).mono ?_
    rintro e w0 ⟨rfl, hb0⟩
    rw [if_neg (by omega)]
    have S1 := S0.step hb0
    clear S0 hb0
    have x0 := S1.x0
    have x1 := S1.x1
    go_wp2_with fail
    refine (toFamily_any _ _ _ zs _ S1.old hn).mono ?_
    rintro e w1 ⟨a1, c1, rfl, ho1, hb1⟩
    have S2 := S1.step hb1
    clear S1 hb1 x0 x1
    go_wp2_with fail
    refine (HS.out _ _ _ (own_ints ho1)).mono ?_
    rintro e w2 ⟨rfl, hb2⟩
    have S3 := S2.step hb2
    have x0 := S3.x0
    have x1 := S3.x1
    clear S2 hb2 ho1
    go_wp2_with fail
    refine (toFamily_any _ _ _ zs _ S3.old hn).mono ?_
    rintro e w4 ⟨a4, c4, rfl, ho4, hb4⟩
    have X5 := XB.start (m := m) ho4
    have S5 := (S3.step hb4).step (below1 w4 (.cells #[.int .i64 m, .slice a4 zs.length c4] 25))
    clear S3 hb4 ho4 x0 x1
    go_wp2_with fail
    refine (HI.out _ _ _ X5.ints (HT.out.below S5.below HT.out.lt)).mono ?_
    rintro e w6 ⟨rfl, hb6⟩
    have X8 := X5.step hb6
    have S8 := S5.step hb6
    clear S5 X5 hb6
    have x0 := S8.x0
    have x1 := S8.x1
    have y0 := X8.x0
    have y1 := X8.x1
    go_wp2_with fail
    have Sd := S8.drew
    have Xd := X8.drew
    clear S8 X8
    go_region_held3 (fun w' => w'.cell? ⟨w.heap.size, 0, none⟩ = some (.int .i64 m) ∧ w'.cell? ⟨w.heap.size, 1, none⟩ = some (.slice a zs.length cap) ∧ w'.cell? ⟨w4.heap.size, 0, none⟩ = some (.int .i64 m) ∧ w'.cell? ⟨w4.heap.size, 1, none⟩ = some (.slice a4 zs.length c4) ∧ Below w.heap.size w w')
      (first
        | exact ⟨Sd.x0, Sd.x1, Xd.x0, Xd.x1, Sd.below⟩
        | exact ⟨(Sd.step hb9).x0, (Sd.step hb9).x1, (Xd.step hb9).x0, (Xd.step hb9).x1, (Sd.step hb9).below⟩
        | exact ⟨((Sd.step hb9).step hb10).x0, ((Sd.step hb9).step hb10).x1, ((Xd.step hb9).step hb10).x0, ((Xd.step hb9).step hb10).x1, ((Sd.step hb9).step hb10).below⟩)
      (first
        | (go_at_call 23; refine (toFamily_any _ _ _ zs _ Sd.old hn).mono ?_; rintro e w9 ⟨a9, c9, rfl, ho9, hb9⟩)
        | (go_at_call 24; refine (eqFamily_any _ _ _ _ _ _ zs zs _ (Xd.step hb9).ints (own_ints ho9) hn hn).mono ?_; rintro e w10 ⟨rfl, hb10⟩; rw [sameF_self]))
    rename_i hHeld
    have HD := Lib.hid hHeld.2.2.2.2
    clear hHeld
    go_wp2
    go_ret
    exact ⟨rfl, HD.out⟩

end Go.Proofs.YtnkedijlddakbaaDoor

/- It is proved what append does with any list of ints, and what slices.Grow and slices.Concat return; conditions: those of each statement. -/
namespace Go.Proofs.YtnkedijlddakbaaDoor
open Go.RowKit

theorem Ints.add_ {w : World} {B : Nat} {x : Addr} {zs : List Int} (h : Ints w B (some x) zs) : ∀ j u, (zs.map (Value.int .i64))[j]? = some u → w.cell? (x.add j) = some u := by
  intro j u hu
  rcases h with rfl | ⟨b, off, e, hb, hc⟩
  · simp at hu
  · injection e with e
    subst e
    have hj : j < zs.length := by have := (List.getElem?_eq_some_iff.1 hu).1; simpa using this
    rw [show (⟨b, off, none⟩ : Addr).add j = ⟨b, off + j, none⟩ from by unfold Addr.add; split <;> simp_all, hc j hj]
    simp [hj] at hu ⊢
    exact hu

end Go.Proofs.YtnkedijlddakbaaDoor

/- It is proved what the FamilyDrop of the program returns; conditions: those of each statement. -/
namespace Go.Proofs.YtnkedijlddakbaaDoor
open Go.RowKit

/-- Without the club at place p. -/
def without (zs : List Int) (p : Nat) : List Int := zs.take p ++ zs.drop (p + 1)

theorem Ints.take_ {w : World} {B : Nat} {a : Option Addr} {zs : List Int} (h : Ints w B a zs) (p : Nat) : Ints w B a (zs.take p) := by
  rcases h with rfl | ⟨b, off, e, hb, hc⟩
  · exact .inl (by simp)
  · exact .inr ⟨b, off, e, hb, fun j hj => by
      rw [List.length_take] at hj
      rw [hc j (by omega), List.getElem?_take, if_pos (by omega)]⟩

theorem Ints.drop_ {w : World} {B b off : Nat} {zs : List Int} (h : Ints w B (some ⟨b, off, none⟩) zs) (p : Nat) (hp : p < zs.length) : Ints w B (some ⟨b, off + p, none⟩) (zs.drop p) := by
  rcases h with rfl | ⟨b', off', e, hb, hc⟩
  · simp at hp
  · injection e with e
    injection e with e1 e2
    subst e1; subst e2
    exact .inr ⟨b, off + p, rfl, hb, fun j hj => by
      rw [List.length_drop] at hj
      have := hc (p + j) (by omega)
      rw [Nat.add_assoc, this, List.getElem?_drop]⟩

end Go.Proofs.YtnkedijlddakbaaDoor

/- It is proved what l1None, l1With and the model's FamilyMeet return; conditions: those of each statement. -/
namespace Go.Proofs.YtnkedijlddakbaaDoor
open Go.RowKit

theorem alloc2_0 (w : World) (o p : Obj) : ((w.alloc o).alloc p).heap[w.heap.size]? = some o := by rw [alloc_old _ _ _ (by simp), alloc_new]
theorem alloc2_1 (w : World) (o p : Obj) : ((w.alloc o).alloc p).heap[w.heap.size + 1]? = some p := by
  rw [show w.heap.size + 1 = (w.alloc o).heap.size from by simp, alloc_new]

/-- A new empty row. -/
theorem own_empty {w : World} {B g : Nat} (h : w.heap[g]? = some (.cells #[] 3 (0, 0))) (hB : B ≤ g) : OwnI w B (.slice (some ⟨g, 0, none⟩) 0 0) [] :=
  ⟨by simp, .inr ⟨g, 0, #[], rfl, hB, h, Nat.le_refl _, by simp [maxLen], by simp, by simp⟩⟩

theorem OwnI.form {w : World} {B : Nat} {v : Value} {zs : List Int} (h : OwnI w B v zs) (hn : 0 < zs.length) : ∃ g cap, v = .slice (some ⟨g, 0, none⟩) zs.length cap ∧ B ≤ g ∧ g < w.heap.size := World.ownsRow.form h hn
end Go.Proofs.YtnkedijlddakbaaDoor

/- It is proved what with returns, what a dual is, and what FamilyDual of the program returns where there is none; conditions: those of each statement. -/
namespace Go.Proofs.YtnkedijlddakbaaDoor
open Go.RowKit Go.Shelf

set_option maxRecDepth 100000 in
theorem or_fin : ∀ x : Fin 256, ∀ p : Fin 8, bits BinOp.or IntKind.i64 (x.val : Int) (2 ^ p.val) = ((x.val ||| 2 ^ p.val : Nat) : Int) := by decide +kernel

theorem or_at (x p : Nat) (hx : x < 256) (hp : p < 8) : bits BinOp.or IntKind.i64 (x : Int) (2 ^ p) = ((x ||| 2 ^ p : Nat) : Int) := or_fin ⟨x, hx⟩ ⟨p, hp⟩
theorem p2_small (p : Nat) (hp : p < 8) : (2 : Int) ^ p ≤ 128 ∧ 1 ≤ (2 : Int) ^ p := by
  obtain rfl | rfl | rfl | rfl | rfl | rfl | rfl | rfl : p = 0 ∨ p = 1 ∨ p = 2 ∨ p = 3 ∨ p = 4 ∨ p = 5 ∨ p = 6 ∨ p = 7 := by omega
  all_goals decide

theorem with_any (x p : Nat) (hx : x < 256) (hp : p < 8) (w : World) :
    Calls Tryd.prog 41 #[.int .i64 (x : Int), .int .i64 (p : Int)] w fun e w' => e = .returned (.int .i64 ((x ||| 2 ^ p : Nat) : Int)) ∧ w = w' := by
  have hp8 : (p : Int) < 8 := by omega
  obtain ⟨h1, h2⟩ := p2_small p hp
  have HO := Lib.hid (or_at x p hx hp)
  go_enter Tryd.func41, Tryd.ntmps41
  go_wp2
  go_ret
  exact ⟨by rw [HO.out]; rfl, rfl⟩

theorem own_nil (w : World) (B : Nat) : OwnI w B (.slice none 0 0) [] := World.ownsRow_nil w B 3 1
end Go.Proofs.YtnkedijlddakbaaDoor
