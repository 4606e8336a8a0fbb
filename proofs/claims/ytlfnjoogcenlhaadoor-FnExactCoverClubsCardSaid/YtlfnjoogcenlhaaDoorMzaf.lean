/- It is proved what the FamilyIn of the model returns; conditions: the bounds in each statement. -/
import Derived.Test.YtlfnjoogcenlhaaDoorRows
import Derived.WalkKit
import Derived.WalkSpells
import Derived.ProofKit
import Derived.OpenShut
import Derived.ShutString
import Derived.ChangeOld
import Derived.Below
import Derived.Deep.RegionHeld3
import Derived.Deep.QuietTactic
import Derived.BigQuiet
import Derived.Lib.Hide
import Derived.Lib.SmallJoins
import Derived.Outline
import Derived.Laws.MakeOwn
import Derived.Laws.OwnMore
import Derived.IntWalk
import Derived.Test.YtlfnjoogcenlhaaDoorMzaa
import Derived.Test.YtlfnjoogcenlhaaDoorMzab
import Derived.Lib.AppendZeros
import Derived.Maps.AppendAt
import Derived.Deep.AppendLies
import Derived.OwnWalk
import Derived.RangeFuncNested
import Derived.RangeFuncBound
import Derived.RangeFuncCalls
import Derived.RangeFuncLeaves
import Derived.RangeFuncBox
import Derived.Shelf.Abstract
import Derived.Shelf.RegionOpen
import Derived.OwnWalkIn
import Derived.TacticsInMore
import Derived.LoopNIn
import Derived.LoopIn
import Derived.Test.YtlfnjoogcenlhaaDoorMzae
namespace Go.Proofs.YtlfnjoogcenlhaaDoor
open Go.RowKit

theorem l1All_b (m : Int) (a : Option Addr) (n cap : Nat) (w : World) (h1 : 1 ≤ m) (h2 : m ≤ 6) :
    Calls Tryd.prog 49 #[.agg #[.int .i64 m, .slice a n cap]] w fun e w' => e = .returned (.int .i64 (fullI m)) ∧ Below w.heap.size w w' :=
  (l1All_any m a n cap w h1 h2).mono fun e w' ⟨he, hw⟩ => ⟨he, by rw [← hw]; exact below1 _ _⟩

set_option maxRecDepth 100000 in
set_option maxHeartbeats 800000 in
theorem specFamilyIn_any (m : Int) (a : Option Addr) (c : Nat) (zs : List Int) (w : World) (ha : Ints w w.heap.size a zs) (hx : zs.length ≤ 1048576) :
    Calls Tryd.prog 35 #[.agg #[.int .i64 m, .slice a zs.length c]] w fun e w' => e = .returned (.bool (famIn m zs)) ∧ Below w.heap.size w w' := by
  obtain ⟨n, hn⟩ : ∃ n, n = zs.length := ⟨_, rfl⟩
  have HN : Hid (n = zs.length) := Lib.hid hn
  rw [← hn]
  rw [← hn] at hx
  have HB := Lib.hid (below1 w (.cells #[.int .i64 m, .slice a n c] 28))
  cases h1 : inB m 1 6
  · have HF : Hid (famIn m zs = false) := Lib.hid (famIn_m h1)
    have H1 := Lib.hid h1
    clear hn h1
    go_enter Tryd.func35, Tryd.ntmps35
    go_wp2_with (go_at_call 61; refine (l6In_any _ _ _ _).mono ?_; rintro e w' ⟨rfl, rfl⟩; rw [H1.out])
    go_ret
    exact ⟨by rw [HF.out]; rfl, HB.out⟩
  · have H1 := Lib.hid h1
    obtain ⟨hm1, hm6⟩ := inB_out h1
    by_cases h3 : n ≤ 8
    · clear hn h1
      go_enter Tryd.func35, Tryd.ntmps35
      go_wp2_with (go_at_call 61; refine (l6In_any _ _ _ _).mono ?_; rintro e w' ⟨rfl, rfl⟩; rw [H1.out])
      go_loopw [3] (fun i wr => ∃ k : Nat, k ≤ n ∧ i = .int .i64 k ∧ (∀ j, j < k → inB (zs[j]?.getD 0) 0 (fullI m) = true) ∧ Below (w.heap.size + 1) (w.alloc (.cells #[.int .i64 m, .slice a n c] 28)) wr) (fun i _ => n - (intOf i).toNat)
      case atStart => exact ⟨0, Nat.zero_le _, rfl, fun j hj => by omega, Below.refl _ _⟩
      case round =>
        obtain ⟨k, hk, rfl, he, hb⟩ := hrel
        have x0 : wr.cell? ⟨w.heap.size, 0, none⟩ = some (.int .i64 m) := (hb.cell (p := ⟨w.heap.size, 0, none⟩) (by simp)).trans (blk_cell (alloc_new w _) 0)
        have x1 : wr.cell? ⟨w.heap.size, 1, none⟩ = some (.slice a n c) := (hb.cell (p := ⟨w.heap.size, 1, none⟩) (by simp)).trans (blk_cell (alloc_new w _) 1)
        have HBW := Lib.hid hb
        by_cases hlt : k < n
        · obtain ⟨b1, o1, rfl, hb1, hc1⟩ := ha.at_ (k := k) (by rw [← HN.out]; exact hlt)
          have x2 := (hb.cell (p := ⟨b1, o1 + k, none⟩) (by simp; omega)).trans ((HB.out.cell (p := ⟨b1, o1 + k, none⟩) hb1).trans hc1)
          have HE := Lib.hid he
          have hk0 : (0 : Int) ≤ (k : Int) := by omega
          have hk1 : (k : Int) < (n : Int) := by omega
          have hs2 : w.heap.size + 1 ≤ wr.heap.size := by have := hb.size; simp at this; omega
          have hs0 : w.heap.size < wr.heap.size := by omega
          have hs1 : b1 < wr.heap.size := by omega
          clear he hc1 hb
          cases hs : inB (zs[k]?.getD 0) 0 (fullI m)
          · have HS := Lib.hid hs
            have HF : Hid (famIn m zs = false) := Lib.hid (famIn_z (by rw [← HN.out]; exact hlt) hs)
            clear hs
            go_wp2_with fail
            go_region_held3 (fun w' => w'.cell? ⟨w.heap.size, 0, none⟩ = some (.int .i64 m) ∧ w'.cell? ⟨w.heap.size, 1, none⟩ = some (.slice (some ⟨b1, o1, none⟩) n c) ∧ w'.cell? ⟨b1, o1 + k, none⟩ = some (.int .i64 (zs[k]?.getD 0)) ∧ Below (w.heap.size + 1) (w.alloc (.cells #[.int .i64 m, .slice (some ⟨b1, o1, none⟩) n c] 28)) w')
              (first
                | exact ⟨x0, x1, x2, HBW.out.drew⟩
                | exact ⟨(hb1'.cell (p := ⟨w.heap.size, 0, none⟩) hs0).trans x0, (hb1'.cell (p := ⟨w.heap.size, 1, none⟩) hs0).trans x1, (hb1'.cell (p := ⟨b1, o1 + k, none⟩) hs1).trans x2, HBW.out.drew.trans (hb1'.mono hs2)⟩)
              (first
                | (go_at_call 49; refine (l1All_b _ _ _ _ _ hm1 hm6).mono ?_; rintro e w1 ⟨rfl, hb1'⟩)
                | (go_at_call 61; refine (l6In_any _ _ _ _).mono ?_; rintro e w' ⟨rfl, rfl⟩; rw [HS.out]))
            rename_i hHeld
            have HW1 := Lib.hid hHeld.2.2.2
            clear hHeld hb1'
            go_wp2
            go_ret
            exact ⟨by rw [HF.out]; rfl, HB.out.trans (HW1.out.mono (by omega))⟩
          · have HS := Lib.hid hs
            clear hs
            go_wp2_with fail
            go_region_held3 (fun w' => w'.cell? ⟨w.heap.size, 0, none⟩ = some (.int .i64 m) ∧ w'.cell? ⟨w.heap.size, 1, none⟩ = some (.slice (some ⟨b1, o1, none⟩) n c) ∧ w'.cell? ⟨b1, o1 + k, none⟩ = some (.int .i64 (zs[k]?.getD 0)) ∧ Below (w.heap.size + 1) (w.alloc (.cells #[.int .i64 m, .slice (some ⟨b1, o1, none⟩) n c] 28)) w')
              (first
                | exact ⟨x0, x1, x2, HBW.out.drew⟩
                | exact ⟨(hb1'.cell (p := ⟨w.heap.size, 0, none⟩) hs0).trans x0, (hb1'.cell (p := ⟨w.heap.size, 1, none⟩) hs0).trans x1, (hb1'.cell (p := ⟨b1, o1 + k, none⟩) hs1).trans x2, HBW.out.drew.trans (hb1'.mono hs2)⟩)
              (first
                | (go_at_call 49; refine (l1All_b _ _ _ _ _ hm1 hm6).mono ?_; rintro e w1 ⟨rfl, hb1'⟩)
                | (go_at_call 61; refine (l6In_any _ _ _ _).mono ?_; rintro e w' ⟨rfl, rfl⟩; rw [HS.out]))
            rename_i hHeld
            have HW1 := Lib.hid hHeld.2.2.2
            clear hHeld hb1'
            go_wp2
            go_roundw
            case rel => exact ⟨k + 1, by omega, by go_num, fun j hj => by
              rcases Nat.lt_succ_iff_lt_or_eq.1 hj with h | rfl
              · exact HE.out j h
              · exact HS.out, HW1.out⟩
            case measure => simp [intOf]; omega
        · obtain rfl : k = n := by omega
          have HF : Hid (famIn m zs = true) := Lib.hid (famIn_y (inB_true hm1 hm6) (by rw [← HN.out]; exact h3) (by rw [← HN.out]; exact he))
          have HBB : Hid (Below w.heap.size w wr) := Lib.hid (HB.out.trans (hb.mono (by omega)))
          clear he hb
          go_wp2
          go_ret
          exact ⟨by rw [HF.out]; rfl, HBB.out⟩
    · have HF : Hid (famIn m zs = false) := Lib.hid (famIn_l (by omega))
      clear hn h1
      go_enter Tryd.func35, Tryd.ntmps35
      go_wp2_with (go_at_call 61; refine (l6In_any _ _ _ _).mono ?_; rintro e w' ⟨rfl, rfl⟩; rw [H1.out])
      go_ret
      exact ⟨by rw [HF.out]; rfl, HB.out⟩

end Go.Proofs.YtlfnjoogcenlhaaDoor

/- It is proved what append does with any list of ints, and what slices.Grow and slices.Concat return; conditions: those of each statement. -/
namespace Go.Proofs.YtlfnjoogcenlhaaDoor
open Go.RowKit

theorem Ints.add_ {w : World} {B : Nat} {x : Addr} {zs : List Int} (h : Ints w B (some x) zs) : ∀ j u, (zs.map (Value.int .i64))[j]? = some u → w.cell? (x.add j) = some u := by
  intro j u hu
  rcases h with rfl | ⟨b, off, e, hb, hc⟩
  · simp at hu
  · injection e with e
    subst e
    have hj : j < zs.length := by have := (List.getElem?_eq_some_iff.1 hu).1; simpa using this
    rw [show (⟨b, off, none⟩ : Addr).add j = ⟨b, off + j, none⟩ from by unfold Addr.add; split <;> simp_all, hc j hj]
    simp [hj] at hu ⊢
    exact hu

/-- append of any list of ints onto a row of the call's own. -/
theorem app_run {w : World} {B n : Nat} {v : Value} {xs : List Value} (h : w.ownsRow B 3 1 v n xs) (hB : B ≤ w.heap.size) (a : Option Addr) (c : Nat) (zs : List Int) (hz : Ints w w.heap.size a zs) (hn : n ≤ 1048576) (hzn : zs.length ≤ 1048576) :
    ∃ a' c' w', (Builtin.append_ #[22, 22] 22 #[v, .slice a zs.length c]).run Tryd.prog w = .ok (.slice a' (n + zs.length) c') w' ∧
      w'.ownsRow B 3 1 (.slice a' (n + zs.length) c') (n + zs.length) (xs ++ zs.map (Value.int .i64)) ∧ w.grownBy w' v.ownBlock := by
  obtain ⟨i0, hi0, hz0, hz1, hz2⟩ := info_parts Tryd.info3
  have form : ∀ {w' : World} {v' : Value} {k : Nat} {ys : List Value}, w'.ownsRow B 3 1 v' k ys → ∃ a' c', v' = .slice a' k c' := fun {w' v' k ys} h' => by
    rcases h'.2 with ⟨rfl, rfl⟩ | ⟨g, cap, cur, rfl, _⟩
    · exact ⟨none, 0, rfl⟩
    · exact ⟨_, _, rfl⟩
  rcases a with _ | x
  · have hzs : zs = [] := by
      rcases hz with h | ⟨_, _, e, _⟩
      · exact h
      · cases e
    subst hzs
    obtain ⟨a', c', rfl⟩ := form h
    refine ⟨a', c', w, ?_, by simpa using h, World.grownBy.refl _ _⟩
    rcases h.2 with ⟨e, rfl⟩ | ⟨g, cap, cur, e, _, _, hnc, _⟩
    · cases e; simp [Builtin.append_, run_underlying Tryd.underlying22, sizeOf, typeInfo, hi0, Builtin.lenOf, Builtin.firstCells]
    · cases e; simp [Builtin.append_, run_underlying Tryd.underlying22, sizeOf, typeInfo, hi0, Builtin.lenOf, Builtin.firstCells, hnc, storeCells]
  · obtain ⟨v', w', hr, h2, h3, _⟩ := run_append_own (P := Tryd.prog) w B 22 22 3 i0 (.int .i64 0) 1 8 Tryd.underlying22 hi0 hz0 hz1 hz2 rfl (by decide) v n xs h x zs.length c (zs.map (Value.int .i64)) (by simp) hz.add_ (ints_oneCell _ _) (by simp only [maxLen]; omega) (by omega) hB
    obtain ⟨a', c', rfl⟩ := form h2
    exact ⟨a', c', w', hr, h2, h3⟩

end Go.Proofs.YtlfnjoogcenlhaaDoor

/- It is proved what the FamilyDrop of the program returns; conditions: those of each statement. -/
namespace Go.Proofs.YtlfnjoogcenlhaaDoor
open Go.RowKit

/-- Without the club at place p. -/
def without (zs : List Int) (p : Nat) : List Int := zs.take p ++ zs.drop (p + 1)

theorem Ints.take_ {w : World} {B : Nat} {a : Option Addr} {zs : List Int} (h : Ints w B a zs) (p : Nat) : Ints w B a (zs.take p) := by
  rcases h with rfl | ⟨b, off, e, hb, hc⟩
  · exact .inl (by simp)
  · exact .inr ⟨b, off, e, hb, fun j hj => by
      rw [List.length_take] at hj
      rw [hc j (by omega), List.getElem?_take, if_pos (by omega)]⟩

theorem Ints.drop_ {w : World} {B b off : Nat} {zs : List Int} (h : Ints w B (some ⟨b, off, none⟩) zs) (p : Nat) (hp : p < zs.length) : Ints w B (some ⟨b, off + p, none⟩) (zs.drop p) := by
  rcases h with rfl | ⟨b', off', e, hb, hc⟩
  · simp at hp
  · injection e with e
    injection e with e1 e2
    subst e1; subst e2
    exact .inr ⟨b, off + p, rfl, hb, fun j hj => by
      rw [List.length_drop] at hj
      have := hc (p + j) (by omega)
      rw [Nat.add_assoc, this, List.getElem?_drop]⟩

theorem drop_ints {w : World} {B b off : Nat} {zs : List Int} (h : Ints w B (some ⟨b, off, none⟩) zs) (p : Nat) : Ints w B (some ⟨b, off + p, none⟩) (zs.drop p) := by
  by_cases hp : p < zs.length
  · exact h.drop_ p hp
  · exact .inl (List.drop_eq_nil_of_le (by omega))

end Go.Proofs.YtlfnjoogcenlhaaDoor

/- It is proved what the FamilyDrop of the model returns; conditions: those of each statement. -/
namespace Go.Proofs.YtlfnjoogcenlhaaDoor
open Go.RowKit

theorem app_run_n {w : World} {B n k : Nat} {v : Value} {xs : List Value} (h : w.ownsRow B 3 1 v n xs) (hB : B ≤ w.heap.size) (a : Option Addr) (c : Nat) (zs : List Int) (hk : zs.length = k) (hz : Ints w w.heap.size a zs) (hn : n ≤ 1048576) (hzn : k ≤ 1048576) :
    ∃ a' c' w', (Builtin.append_ #[22, 22] 22 #[v, .slice a k c]).run Tryd.prog w = .ok (.slice a' (n + k) c') w' ∧
      w'.ownsRow B 3 1 (.slice a' (n + k) c') (n + k) (xs ++ zs.map (Value.int .i64)) ∧ w.grownBy w' v.ownBlock := by
  subst hk
  exact app_run h hB a c zs hz hn hzn

/-- An append whose run is known, as a step of a region that draws. -/
theorem step_run {P : Program} {w : World} {ops : Array Oper} {o : Oper} {a : Act} {K : Act → World → Prop} {Q : Exit → Act → World → Prop} {E : Prop} (hgd : o.guard = none) (s x : Operand) (t tn : TypeId)
    (ho : o.op = .call { callee := .builtin .append, args := #[s, x], argTypes := #[t, tn] }) (vs vx : Value) (hs : a.eval s = vs) (hx : a.eval x = vx)
    (v' : Value) (w' : World) (hr : (Builtin.append_ #[t, tn] o.type #[vs, vx]).run P w = .ok v' w') (h : K (a.put o.dst v') w') :
    if Region.wanted o (yielded ops a.tmps) = true then Oper.wp P o a w K Q else E := by
  rw [if_pos (by simp [Region.wanted, hgd])]
  exact Lib.wp_append_run w s x t tn ho vs vx hs hx v' w' hr h

theorem step_run2 {P : Program} {w : World} {ops : Array Oper} {o : Oper} {a : Act} {K : Act → World → Prop} {Q : Exit → Act → World → Prop} {E : Prop} (hgd : o.guard = none) (s x : Operand) (t tn : TypeId)
    (ho : o.op = .call { callee := .builtin .append, args := #[s, x], argTypes := #[t, tn] }) (vs vx : Value) (hs : a.eval s = vs) (hx : a.eval x = vx)
    (h : ∃ v' w', (Builtin.append_ #[t, tn] o.type #[vs, vx]).run P w = .ok v' w' ∧ K (a.put o.dst v') w') :
    if Region.wanted o (yielded ops a.tmps) = true then Oper.wp P o a w K Q else E := by
  obtain ⟨v', w', hr, hk⟩ := h
  exact step_run hgd s x t tn ho vs vx hs hx v' w' hr hk

end Go.Proofs.YtlfnjoogcenlhaaDoor

/- It is proved what the FamilyPut of the model returns; conditions: those of each statement. -/
namespace Go.Proofs.YtlfnjoogcenlhaaDoor
open Go.RowKit

theorem step_run3 {P : Program} {w : World} {ops : Array Oper} {o : Oper} {a : Act} {K : Act → World → Prop} {Q : Exit → Act → World → Prop} {E : Prop} (s x : Operand) (t tn : TypeId) (vs vx : Value) (hgd : o.guard = none)
    (ho : o.op = .call { callee := .builtin .append, args := #[s, x], argTypes := #[t, tn] }) (hs : a.eval s = vs) (hx : a.eval x = vx)
    (h : ∃ v' w', (Builtin.append_ #[t, tn] o.type #[vs, vx]).run P w = .ok v' w' ∧ K (a.put o.dst v') w') :
    if Region.wanted o (yielded ops a.tmps) = true then Oper.wp P o a w K Q else E := step_run2 hgd s x t tn ho vs vx hs hx h

theorem app_run0 {w : World} {B : Nat} {v : Value} (h : OwnI w B v []) (hB : B ≤ w.heap.size) (a : Option Addr) (c : Nat) (zs : List Int) (hz : Ints w w.heap.size a zs) (_hn : 0 ≤ 1048576) (hzn : zs.length ≤ 1048576) :
    ∃ a' c' w', (Builtin.append_ #[22, 22] 22 #[v, .slice a zs.length c]).run Tryd.prog w = .ok (.slice a' zs.length c') w' ∧
      w'.ownsRow B 3 1 (.slice a' zs.length c') zs.length (zs.map (Value.int .i64)) ∧ w.grownBy w' v.ownBlock := by
  have := app_run (n := 0) (xs := []) h hB a c zs hz (by omega) hzn
  simpa using this

theorem one_blk {w : World} {x : Int} {b : Nat} (h : w.heap[b]? = some (.cells #[.int .i64 x] 3 (0, 0))) : Ints w w.heap.size (some ⟨b, 0, none⟩) [x] := by
  refine .inr ⟨b, 0, rfl, lt_of_some h, fun j hj => ?_⟩
  obtain rfl : j = 0 := by simpa using hj
  exact blk_cell h 0

theorem one_ints0 (w : World) (x : Int) : Ints (w.alloc (.cells #[.int .i64 x] 3)) (w.alloc (.cells #[.int .i64 x] 3)).heap.size (some ⟨w.heap.size, 0, none⟩) [x] := one_blk (alloc_new w _)
end Go.Proofs.YtlfnjoogcenlhaaDoor
