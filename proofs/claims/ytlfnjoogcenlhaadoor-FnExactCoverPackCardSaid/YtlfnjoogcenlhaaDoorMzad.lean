/- It is proved that the calls of exact laws of covers return true, given what the two functions return; conditions: those of each statement. -/
import Derived.Test.YtlfnjoogcenlhaaDoorRows
import Derived.WalkKit
import Derived.WalkSpells
import Derived.ProofKit
import Derived.OpenShut
import Derived.ShutString
import Derived.ChangeOld
import Derived.Below
import Derived.Deep.RegionHeld3
import Derived.Deep.QuietTactic
import Derived.BigQuiet
import Derived.Lib.Hide
import Derived.Lib.SmallJoins
import Derived.Outline
import Derived.Laws.MakeOwn
import Derived.Laws.OwnMore
import Derived.IntWalk
import Derived.RangeFuncNested
import Derived.RangeFuncBound
import Derived.RangeFuncCalls
import Derived.RangeFuncLeaves
import Derived.RangeFuncBox
import Derived.Shelf.Abstract
import Derived.Shelf.RegionOpen
import Derived.OwnWalkIn
import Derived.TacticsInMore
import Derived.LoopNIn
import Derived.LoopIn
import Derived.Maps.AppendAt
import Derived.Shelf.Spec.TrailingZeros
import Derived.Test.YtlfnjoogcenlhaaDoorMzaa
import Derived.Test.YtlfnjoogcenlhaaDoorMzab
import Derived.Test.YtlfnjoogcenlhaaDoorMzac
import Derived.Lib.AppendZeros
import Derived.Deep.AppendLies
import Derived.OwnWalk
namespace Go.Proofs.YtlfnjoogcenlhaaDoor
open Go.RowKit

set_option maxRecDepth 100000 in
set_option maxHeartbeats 4000000 in
theorem walkCoverSmall (m : Int) (a : Option Addr) (cap : Nat) (zs : List Int) (r : Int) (ok : Bool) (w : World) (ha : Ints w w.heap.size a zs) (hn : zs.length ≤ 1048576)
    (hS : ∀ a cap W, Ints W W.heap.size a zs → Calls Tryd.prog 24 #[.agg #[.int .i64 m, .slice a zs.length cap]] W (RetIB W r ok))
    (hT : Tab w) (hI : ∀ a cap W, Ints W W.heap.size a zs → Tab W → Calls Tryd.prog 25 #[.agg #[.int .i64 m, .slice a zs.length cap]] W (RetIB W r ok)) :
    Calls Tryd.prog 6 #[.agg #[.int .i64 m, .slice a zs.length cap]] w fun e w' => e = .returned (.bool true) ∧ Below w.heap.size w w' := by
  have HS := Lib.hid hS
  have HI := Lib.hid hI
  have HT := Lib.hid hT
  have S0 := AF.start w m a cap zs ha
  clear hS hI hT
  cases ok
  all_goals
    go_enter Tryd.func6, Tryd.ntmps6
    go_wp2_with fail
    refine (szFamily_any _ _ _ _ _ _ (by omega) (by omega) (by omega)).mono ?_
    rintro e w0 ⟨rfl, hb0⟩
    rw [if_neg (by omega)]
    have S1 := S0.step hb0
    clear S0 hb0
    have x0 := S1.x0
    have x1 := S1.x1
    go_wp2_with fail
    refine (toFamily_any _ _ _ zs _ S1.old hn).mono ?_
    rintro e w1 ⟨a1, c1, rfl, ho1, hb1⟩
    have S2 := S1.step hb1
    clear S1 hb1 x0 x1
    go_wp2_with fail
    refine (HS.out _ _ _ (own_ints ho1)).mono ?_
    rintro e w2 ⟨rfl, hb2⟩
    have S3 := S2.step hb2
    have x0 := S3.x0
    have x1 := S3.x1
    clear S2 hb2 ho1
    go_wp2_with fail
    refine (toFamily_any _ _ _ zs _ S3.old hn).mono ?_
    rintro e w4 ⟨a4, c4, rfl, ho4, hb4⟩
    have X5 := XB.start (m := m) ho4
    have S5 := (S3.step hb4).step (below1 w4 (.cells #[.int .i64 m, .slice a4 zs.length c4] 28))
    clear S3 hb4 ho4 x0 x1
    go_wp2_with fail
    refine (HI.out _ _ _ X5.ints (HT.out.below S5.below HT.out.lt)).mono ?_
    rintro e w6 ⟨rfl, hb6⟩
    have X8 := X5.step hb6
    have S8 := S5.step hb6
    clear S5 X5 hb6
    have x0 := S8.x0
    have x1 := S8.x1
    have y0 := X8.x0
    have y1 := X8.x1
    go_wp2_with fail
    have Sd := S8.drew
    have Xd := X8.drew
    clear S8 X8
    go_region_held3 (fun w' => w'.cell? ⟨w.heap.size, 0, none⟩ = some (.int .i64 m) ∧ w'.cell? ⟨w.heap.size, 1, none⟩ = some (.slice a zs.length cap) ∧ w'.cell? ⟨w4.heap.size, 0, none⟩ = some (.int .i64 m) ∧ w'.cell? ⟨w4.heap.size, 1, none⟩ = some (.slice a4 zs.length c4) ∧ Below w.heap.size w w')
      (first
        | exact ⟨Sd.x0, Sd.x1, Xd.x0, Xd.x1, Sd.below⟩
        | exact ⟨(Sd.step hb9).x0, (Sd.step hb9).x1, (Xd.step hb9).x0, (Xd.step hb9).x1, (Sd.step hb9).below⟩
        | exact ⟨((Sd.step hb9).step hb10).x0, ((Sd.step hb9).step hb10).x1, ((Xd.step hb9).step hb10).x0, ((Xd.step hb9).step hb10).x1, ((Sd.step hb9).step hb10).below⟩)
      (first
        | (go_at_call 13; refine (toFamily_any _ _ _ zs _ Sd.old hn).mono ?_; rintro e w9 ⟨a9, c9, rfl, ho9, hb9⟩)
        | (go_at_call 16; refine (eqFamily_any _ _ _ _ _ _ zs zs _ (Xd.step hb9).ints (own_ints ho9) hn hn).mono ?_; rintro e w10 ⟨rfl, hb10⟩; rw [sameF_self]))
    rename_i hHeld
    have HD := Lib.hid hHeld.2.2.2.2
    clear hHeld
    go_wp2
    go_ret
    exact ⟨rfl, HD.out⟩

set_option maxRecDepth 100000 in
set_option maxHeartbeats 4000000 in
theorem walkCoverPack (m : Int) (a : Option Addr) (cap : Nat) (zs : List Int) (r : Int) (ok : Bool) (w : World) (ha : Ints w w.heap.size a zs) (hn : zs.length ≤ 1048576)
    (hS : ∀ a cap W, Ints W W.heap.size a zs → Calls Tryd.prog 26 #[.agg #[.int .i64 m, .slice a zs.length cap]] W (RetIB W r ok))
    (hT : Tab w) (hI : ∀ a cap W, Ints W W.heap.size a zs → Tab W → Calls Tryd.prog 27 #[.agg #[.int .i64 m, .slice a zs.length cap]] W (RetIB W r ok)) :
    Calls Tryd.prog 7 #[.agg #[.int .i64 m, .slice a zs.length cap]] w fun e w' => e = .returned (.bool true) ∧ Below w.heap.size w w' := by
  have HS := Lib.hid hS
  have HI := Lib.hid hI
  have HT := Lib.hid hT
  have S0 := AF.start w m a cap zs ha
  clear hS hI hT
  cases ok
  all_goals
    go_enter Tryd.func7, Tryd.ntmps7
    go_wp2_with fail
    refine (szFamily_any _ _ _ _ _ _ (by omega) (by omega) (by omega)).mono ?_
    rintro e w0 ⟨rfl, hb0⟩
    rw [if_neg (by omega)]
    have S1 := S0.step hb0
    clear S0 hb0
    have x0 := S1.x0
    have x1 := S1.x1
    go_wp2_with fail
    refine (toFamily_any _ _ _ zs _ S1.old hn).mono ?_
    rintro e w1 ⟨a1, c1, rfl, ho1, hb1⟩
    have S2 := S1.step hb1
    clear S1 hb1 x0 x1
    go_wp2_with fail
    refine (HS.out _ _ _ (own_ints ho1)).mono ?_
    rintro e w2 ⟨rfl, hb2⟩
    have S3 := S2.step hb2
    have x0 := S3.x0
    have x1 := S3.x1
    clear S2 hb2 ho1
    go_wp2_with fail
    refine (toFamily_any _ _ _ zs _ S3.old hn).mono ?_
    rintro e w4 ⟨a4, c4, rfl, ho4, hb4⟩
    have X5 := XB.start (m := m) ho4
    have S5 := (S3.step hb4).step (below1 w4 (.cells #[.int .i64 m, .slice a4 zs.length c4] 28))
    clear S3 hb4 ho4 x0 x1
    go_wp2_with fail
    refine (HI.out _ _ _ X5.ints (HT.out.below S5.below HT.out.lt)).mono ?_
    rintro e w6 ⟨rfl, hb6⟩
    have X8 := X5.step hb6
    have S8 := S5.step hb6
    clear S5 X5 hb6
    have x0 := S8.x0
    have x1 := S8.x1
    have y0 := X8.x0
    have y1 := X8.x1
    go_wp2_with fail
    have Sd := S8.drew
    have Xd := X8.drew
    clear S8 X8
    go_region_held3 (fun w' => w'.cell? ⟨w.heap.size, 0, none⟩ = some (.int .i64 m) ∧ w'.cell? ⟨w.heap.size, 1, none⟩ = some (.slice a zs.length cap) ∧ w'.cell? ⟨w4.heap.size, 0, none⟩ = some (.int .i64 m) ∧ w'.cell? ⟨w4.heap.size, 1, none⟩ = some (.slice a4 zs.length c4) ∧ Below w.heap.size w w')
      (first
        | exact ⟨Sd.x0, Sd.x1, Xd.x0, Xd.x1, Sd.below⟩
        | exact ⟨(Sd.step hb9).x0, (Sd.step hb9).x1, (Xd.step hb9).x0, (Xd.step hb9).x1, (Sd.step hb9).below⟩
        | exact ⟨((Sd.step hb9).step hb10).x0, ((Sd.step hb9).step hb10).x1, ((Xd.step hb9).step hb10).x0, ((Xd.step hb9).step hb10).x1, ((Sd.step hb9).step hb10).below⟩)
      (first
        | (go_at_call 13; refine (toFamily_any _ _ _ zs _ Sd.old hn).mono ?_; rintro e w9 ⟨a9, c9, rfl, ho9, hb9⟩)
        | (go_at_call 16; refine (eqFamily_any _ _ _ _ _ _ zs zs _ (Xd.step hb9).ints (own_ints ho9) hn hn).mono ?_; rintro e w10 ⟨rfl, hb10⟩; rw [sameF_self]))
    rename_i hHeld
    have HD := Lib.hid hHeld.2.2.2.2
    clear hHeld
    go_wp2
    go_ret
    exact ⟨rfl, HD.out⟩

set_option maxRecDepth 100000 in
set_option maxHeartbeats 1600000 in
theorem walkCoverOwn (m : Int) (a : Option Addr) (cap : Nat) (zs : List Int) (r : Bool) (w : World) (ha : Ints w w.heap.size a zs) (hn : zs.length ≤ 1048576)
    (hS : ∀ a cap W, Ints W W.heap.size a zs → Calls Tryd.prog 30 #[.agg #[.int .i64 m, .slice a zs.length cap]] W fun e W' => e = .returned (.bool r) ∧ Below W.heap.size W W')
    (hT : Tab w) (hI : ∀ a cap W, Ints W W.heap.size a zs → Tab W → Calls Tryd.prog 31 #[.agg #[.int .i64 m, .slice a zs.length cap]] W fun e W' => e = .returned (.bool r) ∧ Below W.heap.size W W') :
    Calls Tryd.prog 9 #[.agg #[.int .i64 m, .slice a zs.length cap]] w fun e w' => e = .returned (.bool true) ∧ Below w.heap.size w w' := by
  have HS := Lib.hid hS
  have HI := Lib.hid hI
  have HT := Lib.hid hT
  have S0 := AF.start w m a cap zs ha
  clear hS hI hT
  cases r
  all_goals
    go_enter Tryd.func9, Tryd.ntmps9
    go_wp2_with fail
    refine (szFamily_any _ _ _ _ _ _ (by omega) (by omega) (by omega)).mono ?_
    rintro e w0 ⟨rfl, hb0⟩
    rw [if_neg (by omega)]
    have S1 := S0.step hb0
    clear S0 hb0
    have x0 := S1.x0
    have x1 := S1.x1
    go_wp2_with fail
    refine (toFamily_any _ _ _ zs _ S1.old hn).mono ?_
    rintro e w1 ⟨a1, c1, rfl, ho1, hb1⟩
    have S2 := S1.step hb1
    clear S1 hb1 x0 x1
    go_wp2_with fail
    refine (HS.out _ _ _ (own_ints ho1)).mono ?_
    rintro e w2 ⟨rfl, hb2⟩
    have S3 := S2.step hb2
    clear S2 hb2 ho1
    have x0 := S3.x0
    have x1 := S3.x1
    go_wp2_with fail
    refine (toFamily_any _ _ _ zs _ S3.old hn).mono ?_
    rintro e w3 ⟨a2, c2, rfl, ho2, hb3⟩
    have S4 := (S3.step hb3).step (below1 w3 (.cells #[.int .i64 m, .slice a2 zs.length c2] 28))
    have X4 := XF.start w3 m a2 c2 zs (own_ints ho2)
    clear S3 hb3 x0 x1
    go_wp2_with fail
    refine (HI.out _ _ _ X4.ints (HT.out.below S4.below HT.out.lt)).mono ?_
    rintro e w4 ⟨rfl, hb4⟩
    have S5 := S4.step hb4
    have X5 := X4.step hb4
    clear S4 X4 hb4 ho2
    have x0 := S5.x0
    have x1 := S5.x1
    have y0 := X5.x0
    have y1 := X5.x1
    go_wp2_with fail
    have Sd := S5.drew
    have Xd := X5.drew
    clear S5 X5
    go_region_held3 (fun w' => w'.cell? ⟨w.heap.size, 0, none⟩ = some (.int .i64 m) ∧ w'.cell? ⟨w.heap.size, 1, none⟩ = some (.slice a zs.length cap) ∧ w'.cell? ⟨w3.heap.size, 0, none⟩ = some (.int .i64 m) ∧ w'.cell? ⟨w3.heap.size, 1, none⟩ = some (.slice a2 zs.length c2) ∧ Below w.heap.size w w')
      (first
        | exact ⟨Sd.x0, Sd.x1, Xd.x0, Xd.x1, Sd.below⟩
        | exact ⟨(Sd.step hb5).x0, (Sd.step hb5).x1, (Xd.step hb5).x0, (Xd.step hb5).x1, (Sd.step hb5).below⟩
        | exact ⟨((Sd.step hb5).step hb6).x0, ((Sd.step hb5).step hb6).x1, ((Xd.step hb5).step hb6).x0, ((Xd.step hb5).step hb6).x1, ((Sd.step hb5).step hb6).below⟩)
      (first
        | (go_at_call 13; refine (toFamily_any _ _ _ zs _ Sd.old hn).mono ?_; rintro e w5 ⟨a3, c3, rfl, ho3, hb5⟩)
        | (go_at_call 16; refine (eqFamily_any _ _ _ _ _ _ zs zs _ (Xd.step hb5).ints (own_ints ho3) hn hn).mono ?_; rintro e w6 ⟨rfl, hb6⟩; rw [sameF_self]))
    rename_i hHeld
    have HD := Lib.hid hHeld.2.2.2.2
    clear hHeld
    go_wp2
    go_ret
    exact ⟨rfl, HD.out⟩

end Go.Proofs.YtlfnjoogcenlhaaDoor

/- It is proved what append does with any list of ints, and what slices.Grow and slices.Concat return; conditions: those of each statement. -/
namespace Go.Proofs.YtlfnjoogcenlhaaDoor
open Go.RowKit

theorem Ints.add_ {w : World} {B : Nat} {x : Addr} {zs : List Int} (h : Ints w B (some x) zs) : ∀ j u, (zs.map (Value.int .i64))[j]? = some u → w.cell? (x.add j) = some u := by
  intro j u hu
  rcases h with rfl | ⟨b, off, e, hb, hc⟩
  · simp at hu
  · injection e with e
    subst e
    have hj : j < zs.length := by have := (List.getElem?_eq_some_iff.1 hu).1; simpa using this
    rw [show (⟨b, off, none⟩ : Addr).add j = ⟨b, off + j, none⟩ from by unfold Addr.add; split <;> simp_all, hc j hj]
    simp [hj] at hu ⊢
    exact hu

/-- append of any list of ints onto a row of the call's own. -/
theorem app_run {w : World} {B n : Nat} {v : Value} {xs : List Value} (h : w.ownsRow B 3 1 v n xs) (hB : B ≤ w.heap.size) (a : Option Addr) (c : Nat) (zs : List Int) (hz : Ints w w.heap.size a zs) (hn : n ≤ 1048576) (hzn : zs.length ≤ 1048576) :
    ∃ a' c' w', (Builtin.append_ #[22, 22] 22 #[v, .slice a zs.length c]).run Tryd.prog w = .ok (.slice a' (n + zs.length) c') w' ∧
      w'.ownsRow B 3 1 (.slice a' (n + zs.length) c') (n + zs.length) (xs ++ zs.map (Value.int .i64)) ∧ w.grownBy w' v.ownBlock := by
  obtain ⟨i0, hi0, hz0, hz1, hz2⟩ := info_parts Tryd.info3
  have form : ∀ {w' : World} {v' : Value} {k : Nat} {ys : List Value}, w'.ownsRow B 3 1 v' k ys → ∃ a' c', v' = .slice a' k c' := fun {w' v' k ys} h' => by
    rcases h'.2 with ⟨rfl, rfl⟩ | ⟨g, cap, cur, rfl, _⟩
    · exact ⟨none, 0, rfl⟩
    · exact ⟨_, _, rfl⟩
  rcases a with _ | x
  · have hzs : zs = [] := by
      rcases hz with h | ⟨_, _, e, _⟩
      · exact h
      · cases e
    subst hzs
    obtain ⟨a', c', rfl⟩ := form h
    refine ⟨a', c', w, ?_, by simpa using h, World.grownBy.refl _ _⟩
    rcases h.2 with ⟨e, rfl⟩ | ⟨g, cap, cur, e, _, _, hnc, _⟩
    · cases e; simp [Builtin.append_, run_underlying Tryd.underlying22, sizeOf, typeInfo, hi0, Builtin.lenOf, Builtin.firstCells]
    · cases e; simp [Builtin.append_, run_underlying Tryd.underlying22, sizeOf, typeInfo, hi0, Builtin.lenOf, Builtin.firstCells, hnc, storeCells]
  · obtain ⟨v', w', hr, h2, h3, _⟩ := run_append_own (P := Tryd.prog) w B 22 22 3 i0 (.int .i64 0) 1 8 Tryd.underlying22 hi0 hz0 hz1 hz2 rfl (by decide) v n xs h x zs.length c (zs.map (Value.int .i64)) (by simp) hz.add_ (ints_oneCell _ _) (by simp only [maxLen]; omega) (by omega) hB
    obtain ⟨a', c', rfl⟩ := form h2
    exact ⟨a', c', w', hr, h2, h3⟩

end Go.Proofs.YtlfnjoogcenlhaaDoor

/- It is proved what the FamilyDrop of the program returns; conditions: those of each statement. -/
namespace Go.Proofs.YtlfnjoogcenlhaaDoor
open Go.RowKit

/-- Without the club at place p. -/
def without (zs : List Int) (p : Nat) : List Int := zs.take p ++ zs.drop (p + 1)

theorem Ints.take_ {w : World} {B : Nat} {a : Option Addr} {zs : List Int} (h : Ints w B a zs) (p : Nat) : Ints w B a (zs.take p) := by
  rcases h with rfl | ⟨b, off, e, hb, hc⟩
  · exact .inl (by simp)
  · exact .inr ⟨b, off, e, hb, fun j hj => by
      rw [List.length_take] at hj
      rw [hc j (by omega), List.getElem?_take, if_pos (by omega)]⟩

theorem Ints.drop_ {w : World} {B b off : Nat} {zs : List Int} (h : Ints w B (some ⟨b, off, none⟩) zs) (p : Nat) (hp : p < zs.length) : Ints w B (some ⟨b, off + p, none⟩) (zs.drop p) := by
  rcases h with rfl | ⟨b', off', e, hb, hc⟩
  · simp at hp
  · injection e with e
    injection e with e1 e2
    subst e1; subst e2
    exact .inr ⟨b, off + p, rfl, hb, fun j hj => by
      rw [List.length_drop] at hj
      have := hc (p + j) (by omega)
      rw [Nat.add_assoc, this, List.getElem?_drop]⟩

theorem drop_ints {w : World} {B b off : Nat} {zs : List Int} (h : Ints w B (some ⟨b, off, none⟩) zs) (p : Nat) : Ints w B (some ⟨b, off + p, none⟩) (zs.drop p) := by
  by_cases hp : p < zs.length
  · exact h.drop_ p hp
  · exact .inl (List.drop_eq_nil_of_le (by omega))

end Go.Proofs.YtlfnjoogcenlhaaDoor
