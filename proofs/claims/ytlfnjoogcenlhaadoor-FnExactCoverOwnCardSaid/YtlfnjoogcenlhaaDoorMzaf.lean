/- It is proved what the FamilyIn of the model returns; conditions: the bounds in each statement. -/
import Derived.Test.YtlfnjoogcenlhaaDoorRows
import Derived.WalkKit
import Derived.WalkSpells
import Derived.ProofKit
import Derived.OpenShut
import Derived.ShutString
import Derived.ChangeOld
import Derived.Below
import Derived.Deep.RegionHeld3
import Derived.Deep.QuietTactic
import Derived.BigQuiet
import Derived.Lib.Hide
import Derived.Lib.SmallJoins
import Derived.Outline
import Derived.Laws.MakeOwn
import Derived.Laws.OwnMore
import Derived.IntWalk
import Derived.Test.YtlfnjoogcenlhaaDoorMzaa
import Derived.Test.YtlfnjoogcenlhaaDoorMzab
import Derived.OrdersIn
import Derived.TacticsIn
import Derived.RangeFuncNested
import Derived.RangeFuncBound
import Derived.RangeFuncCalls
import Derived.RangeFuncLeaves
import Derived.RangeFuncBox
import Derived.Shelf.Abstract
import Derived.Shelf.RegionOpen
import Derived.OwnWalkIn
import Derived.TacticsInMore
import Derived.LoopNIn
import Derived.LoopIn
import Derived.Maps.AppendAt
namespace Go.Proofs.YtlfnjoogcenlhaaDoor
open Go.RowKit

theorem l1All_b (m : Int) (a : Option Addr) (n cap : Nat) (w : World) (h1 : 1 ≤ m) (h2 : m ≤ 6) :
    Calls Tryd.prog 49 #[.agg #[.int .i64 m, .slice a n cap]] w fun e w' => e = .returned (.int .i64 (fullI m)) ∧ Below w.heap.size w w' :=
  (l1All_any m a n cap w h1 h2).mono fun e w' ⟨he, hw⟩ => ⟨he, by rw [← hw]; exact below1 _ _⟩

set_option maxRecDepth 100000 in
set_option maxHeartbeats 800000 in
theorem specFamilyIn_any (m : Int) (a : Option Addr) (c : Nat) (zs : List Int) (w : World) (ha : Ints w w.heap.size a zs) (hx : zs.length ≤ 1048576) :
    Calls Tryd.prog 35 #[.agg #[.int .i64 m, .slice a zs.length c]] w fun e w' => e = .returned (.bool (famIn m zs)) ∧ Below w.heap.size w w' := by
  obtain ⟨n, hn⟩ : ∃ n, n = zs.length := ⟨_, rfl⟩
  have HN : Hid (n = zs.length) := Lib.hid hn
  rw [← hn]
  rw [← hn] at hx
  have HB := Lib.hid (below1 w (.cells #[.int .i64 m, .slice a n c] 28))
  cases h1 : inB m 1 6
  · have HF : Hid (famIn m zs = false) := Lib.hid (famIn_m h1)
    have H1 := Lib.hid h1
    clear hn h1
    go_enter Tryd.func35, Tryd.ntmps35
    go_wp2_with (go_at_call 61; refine (l6In_any _ _ _ _).mono ?_; rintro e w' ⟨rfl, rfl⟩; rw [H1.out])
    go_ret
    exact ⟨by rw [HF.out]; rfl, HB.out⟩
  · have H1 := Lib.hid h1
    obtain ⟨hm1, hm6⟩ := inB_out h1
    by_cases h3 : n ≤ 8
    · clear hn h1
      go_enter Tryd.func35, Tryd.ntmps35
      go_wp2_with (go_at_call 61; refine (l6In_any _ _ _ _).mono ?_; rintro e w' ⟨rfl, rfl⟩; rw [H1.out])
      go_loopw [3] (fun i wr => ∃ k : Nat, k ≤ n ∧ i = .int .i64 k ∧ (∀ j, j < k → inB (zs[j]?.getD 0) 0 (fullI m) = true) ∧ Below (w.heap.size + 1) (w.alloc (.cells #[.int .i64 m, .slice a n c] 28)) wr) (fun i _ => n - (intOf i).toNat)
      case atStart => exact ⟨0, Nat.zero_le _, rfl, fun j hj => by omega, Below.refl _ _⟩
      case round =>
        obtain ⟨k, hk, rfl, he, hb⟩ := hrel
        have x0 : wr.cell? ⟨w.heap.size, 0, none⟩ = some (.int .i64 m) := (hb.cell (p := ⟨w.heap.size, 0, none⟩) (by simp)).trans (blk_cell (alloc_new w _) 0)
        have x1 : wr.cell? ⟨w.heap.size, 1, none⟩ = some (.slice a n c) := (hb.cell (p := ⟨w.heap.size, 1, none⟩) (by simp)).trans (blk_cell (alloc_new w _) 1)
        have HBW := Lib.hid hb
        by_cases hlt : k < n
        · obtain ⟨b1, o1, rfl, hb1, hc1⟩ := ha.at_ (k := k) (by rw [← HN.out]; exact hlt)
          have x2 := (hb.cell (p := ⟨b1, o1 + k, none⟩) (by simp; omega)).trans ((HB.out.cell (p := ⟨b1, o1 + k, none⟩) hb1).trans hc1)
          have HE := Lib.hid he
          have hk0 : (0 : Int) ≤ (k : Int) := by omega
          have hk1 : (k : Int) < (n : Int) := by omega
          have hs2 : w.heap.size + 1 ≤ wr.heap.size := by have := hb.size; simp at this; omega
          have hs0 : w.heap.size < wr.heap.size := by omega
          have hs1 : b1 < wr.heap.size := by omega
          clear he hc1 hb
          cases hs : inB (zs[k]?.getD 0) 0 (fullI m)
          · have HS := Lib.hid hs
            have HF : Hid (famIn m zs = false) := Lib.hid (famIn_z (by rw [← HN.out]; exact hlt) hs)
            clear hs
            go_wp2_with fail
            go_region_held3 (fun w' => w'.cell? ⟨w.heap.size, 0, none⟩ = some (.int .i64 m) ∧ w'.cell? ⟨w.heap.size, 1, none⟩ = some (.slice (some ⟨b1, o1, none⟩) n c) ∧ w'.cell? ⟨b1, o1 + k, none⟩ = some (.int .i64 (zs[k]?.getD 0)) ∧ Below (w.heap.size + 1) (w.alloc (.cells #[.int .i64 m, .slice (some ⟨b1, o1, none⟩) n c] 28)) w')
              (first
                | exact ⟨x0, x1, x2, HBW.out.drew⟩
                | exact ⟨(hb1'.cell (p := ⟨w.heap.size, 0, none⟩) hs0).trans x0, (hb1'.cell (p := ⟨w.heap.size, 1, none⟩) hs0).trans x1, (hb1'.cell (p := ⟨b1, o1 + k, none⟩) hs1).trans x2, HBW.out.drew.trans (hb1'.mono hs2)⟩)
              (first
                | (go_at_call 49; refine (l1All_b _ _ _ _ _ hm1 hm6).mono ?_; rintro e w1 ⟨rfl, hb1'⟩)
                | (go_at_call 61; refine (l6In_any _ _ _ _).mono ?_; rintro e w' ⟨rfl, rfl⟩; rw [HS.out]))
            rename_i hHeld
            have HW1 := Lib.hid hHeld.2.2.2
            clear hHeld hb1'
            go_wp2
            go_ret
            exact ⟨by rw [HF.out]; rfl, HB.out.trans (HW1.out.mono (by omega))⟩
          · have HS := Lib.hid hs
            clear hs
            go_wp2_with fail
            go_region_held3 (fun w' => w'.cell? ⟨w.heap.size, 0, none⟩ = some (.int .i64 m) ∧ w'.cell? ⟨w.heap.size, 1, none⟩ = some (.slice (some ⟨b1, o1, none⟩) n c) ∧ w'.cell? ⟨b1, o1 + k, none⟩ = some (.int .i64 (zs[k]?.getD 0)) ∧ Below (w.heap.size + 1) (w.alloc (.cells #[.int .i64 m, .slice (some ⟨b1, o1, none⟩) n c] 28)) w')
              (first
                | exact ⟨x0, x1, x2, HBW.out.drew⟩
                | exact ⟨(hb1'.cell (p := ⟨w.heap.size, 0, none⟩) hs0).trans x0, (hb1'.cell (p := ⟨w.heap.size, 1, none⟩) hs0).trans x1, (hb1'.cell (p := ⟨b1, o1 + k, none⟩) hs1).trans x2, HBW.out.drew.trans (hb1'.mono hs2)⟩)
              (first
                | (go_at_call 49; refine (l1All_b _ _ _ _ _ hm1 hm6).mono ?_; rintro e w1 ⟨rfl, hb1'⟩)
                | (go_at_call 61; refine (l6In_any _ _ _ _).mono ?_; rintro e w' ⟨rfl, rfl⟩; rw [HS.out]))
            rename_i hHeld
            have HW1 := Lib.hid hHeld.2.2.2
            clear hHeld hb1'
            go_wp2
            go_roundw
            case rel => exact ⟨k + 1, by omega, by go_num, fun j hj => by
              rcases Nat.lt_succ_iff_lt_or_eq.1 hj with h | rfl
              · exact HE.out j h
              · exact HS.out, HW1.out⟩
            case measure => simp [intOf]; omega
        · obtain rfl : k = n := by omega
          have HF : Hid (famIn m zs = true) := Lib.hid (famIn_y (inB_true hm1 hm6) (by rw [← HN.out]; exact h3) (by rw [← HN.out]; exact he))
          have HBB : Hid (Below w.heap.size w wr) := Lib.hid (HB.out.trans (hb.mono (by omega)))
          clear he hb
          go_wp2
          go_ret
          exact ⟨by rw [HF.out]; rfl, HBB.out⟩
    · have HF : Hid (famIn m zs = false) := Lib.hid (famIn_l (by omega))
      clear hn h1
      go_enter Tryd.func35, Tryd.ntmps35
      go_wp2_with (go_at_call 61; refine (l6In_any _ _ _ _).mono ?_; rintro e w' ⟨rfl, rfl⟩; rw [H1.out])
      go_ret
      exact ⟨by rw [HF.out]; rfl, HB.out⟩

end Go.Proofs.YtlfnjoogcenlhaaDoor

/- It is proved that a region that draws its order may be walked one operation at a time where what each operation gives does not hang on the order; conditions: those of each statement. -/
namespace Go
section
variable {F : Fence} {n : Nat} {P : Program} {ops : Array Oper} {Q : Exit → Act → World → Prop} {md : Region.Mode}

/-- Q, but K where nothing jumps. -/
def UponK (K : Act → World → Prop) (Q : Exit → Act → World → Prop) : Exit → Act → World → Prop
  | .normal, a, w => K a w
  | .ret, a, w => Q .ret a w
  | .exit i, a, w => Q (.exit i) a w
  | .goto t, a, w => Q (.goto t) a w
  | .panic c, a, w => Q (.panic c) a w
  | .outgrown, a, w => Q .outgrown a w

theorem Oper.wpIn_uponK {o : Oper} {a : Act} {w : World} {K K' : Act → World → Prop} (hh : o.wpIn F n P a w K (UponK K' Q)) : o.wpIn F n P a w K Q := by
  unfold Oper.wpIn at *
  refine ⟨hh.1, ?_⟩
  have hh := hh.2
  generalize (o.semAt F.round a.eval).run P w = r at *
  cases r with
  | ok x w' =>
    cases x <;> simp only [Oper.uponIn] at hh ⊢ <;>
      first
        | exact hh
        | exact ⟨hh.1, CallsIn.mono hh.2 (fun e w'' he => by cases e <;> exact he)⟩
        | exact ⟨hh.1, RoundIn.mono hh.2 (fun e w'' he => by cases e <;> exact he)⟩
  | halt x w' => cases x <;> simp only [Oper.uponIn] at hh ⊢ <;> exact hh

theorem wpOpIn_of_list {i : Nat} {o : Oper} {a : Act} {w : World} {K : Act → World → Prop} (ho : ops[i]? = some o) (h : wpListIn F n P ops (UponK K Q) [o] a w) : wpOpIn F n P ops Q i K a w := by
  unfold wpOpIn
  simp only [ho]
  unfold wpListIn at h
  split
  · rename_i hw; simp only [hw, if_true] at h; exact Oper.wpIn_uponK h
  · rename_i hw; simp only [hw] at h; exact h

def masks : Nat → List (List Bool)
  | 0 => [[]]
  | k + 1 => (masks k).flatMap fun m => [false :: m, true :: m]

theorem mem_masks : ∀ l : List Bool, l ∈ masks l.length
  | [] => by simp [masks]
  | b :: l => by
    simp only [List.length_cons, masks, List.mem_flatMap]
    exact ⟨l, mem_masks l, by cases b <;> simp⟩

/-- Where no operation may come next, all have come. -/
def Region.endsB (md : Region.Mode) (ops : Array Oper) : Bool := (masks ops.size).all fun l => !(Region.ready md ops l.toArray).isEmpty || l.all id

theorem count_set : ∀ (l : List Bool) (i : Nat), l[i]? = some false → (l.set i true).count false + 1 = l.count false
  | [], i, h => by simp at h
  | b :: l, 0, h => by simp at h; subst h; simp
  | b :: l, i + 1, h => by
    have := count_set l i (by simpa using h)
    cases b <;> simp [List.count_cons] <;> omega

theorem wpAnyIn_held {A : Array Bool → Act} {S : Array Bool → World → Prop} (hends : Region.endsB md ops = true)
    (hstep : ∀ listed w i, listed.size = ops.size → i ∈ Region.ready md ops listed → S listed w → wpOpIn F n P ops Q i (fun a' w' => a' = A (listed.setIfInBounds i true) ∧ S (listed.setIfInBounds i true) w') (A listed) w)
    (hend : ∀ listed w, listed.size = ops.size → (listed.toList.all id) = true → S listed w → Q .normal (A listed) w) :
    ∀ fuel listed w, listed.size = ops.size → listed.toList.count false ≤ fuel → S listed w → wpAnyIn F n P md ops Q fuel listed (A listed) w
  | 0, listed, w, hs, hc, hS => by
    have hall : listed.toList.all id = true := by
      rw [List.all_eq_true]
      intro x hx
      cases x
      · have := List.count_pos_iff.2 hx; omega
      · rfl
    refine ⟨?_, hend listed w hs hall hS⟩
    unfold Region.ready
    rw [List.filter_eq_nil_iff]
    intro i hi
    rw [List.mem_range] at hi
    have hi' : i < listed.size := by omega
    have : listed.getD i true = true := by
      have h1 := List.all_eq_true.1 hall listed[i] (by simp)
      simp only [id] at h1
      simp [Array.getD, hi', h1]
    simp [this]
  | fuel + 1, listed, w, hs, hc, hS => by
    refine ⟨fun h0 => hend listed w hs ?_ hS, fun i hi => ?_⟩
    · have h1 := List.all_eq_true.1 hends listed.toList (by have := mem_masks listed.toList; rwa [Array.length_toList, hs] at this)
      simpa [h0] using h1
    · refine wpOpIn_mono ?_ (hstep listed w i hs hi hS)
      rintro a' w' ⟨rfl, hS'⟩
      refine wpAnyIn_held hends hstep hend fuel _ w' (by simpa using hs) ?_ hS'
      have hu : listed.toList[i]? = some false := by
        unfold Region.ready at hi
        rw [List.mem_filter, Bool.and_eq_true, List.mem_range] at hi
        have hi' : i < listed.size := by omega
        have := hi.2.1
        simp [Array.getD, hi'] at this
        simp [hi', this]
      have := count_set listed.toList i hu
      simp only [Array.toList_setIfInBounds]
      omega

theorem wpIn_region_held {A : Array Bool → Act} {S : Array Bool → World → Prop} {id' : Nat} {a : Act} {w : World} (hm : P.follows .mixedOrders = true) (hends : Region.endsB .any ops = true)
    (ha : A (Array.replicate ops.size false) = a) (hS : S (Array.replicate ops.size false) { w with drawn := w.drawn + 1 })
    (hstep : ∀ listed w i, listed.size = ops.size → i ∈ Region.ready .any ops listed → S listed w → wpOpIn F n P ops Q i (fun a' w' => a' = A (listed.setIfInBounds i true) ∧ S (listed.setIfInBounds i true) w') (A listed) w)
    (hend : ∀ listed w, listed.size = ops.size → (listed.toList.all id) = true → S listed w → Q .normal (A listed) w) : (Code.region id' ops true).wpIn F n P Q a w := by
  subst ha
  exact wpIn_region_any hm (wpAnyIn_held hends hstep hend ops.size _ _ (by simp) (by simp) hS)

end
end Go

/- It is proved what the iterator over a family's clubs yields; conditions: those of each statement. -/
namespace Go.Proofs.YtlfnjoogcenlhaaDoor
open Go.RowKit Go.Shelf

attribute [local go_sem] Oper.semAt_some

/-- The first k places with the clubs there. -/
def pairs (zs : List Int) (k : Nat) : List (Nat × Int) := (List.range k).map fun j => (j, zs[j]?.getD 0)

theorem pairs_succ (zs : List Int) (k : Nat) : pairs zs (k + 1) = pairs zs k ++ [(k, zs[k]?.getD 0)] := by simp [pairs, List.range_succ]
theorem pairs_succ' (zs : List Int) (k : Nat) (h : k < zs.length) : pairs zs (k + 1) = pairs zs k ++ [(k, zs[k])] := by rw [pairs_succ]; simp [h]
theorem pairs_length (zs : List Int) (k : Nat) : (pairs zs k).length = k := by simp [pairs]
theorem pairs_snd (zs : List Int) (k : Nat) (h : k ≤ zs.length) : (pairs zs k).map (·.2) = zs.take k := by
  apply List.ext_getElem
  · simp [pairs, h]
  · intro i h1 h2
    have : i < zs.length := by simp [pairs] at h1; omega
    simp [pairs, this]

theorem pairs_all (zs : List Int) : (pairs zs zs.length).map (·.2) = zs := by rw [pairs_snd zs _ (Nat.le_refl _), List.take_length]
set_option maxRecDepth 100000 in
set_option maxHeartbeats 2000000 in
theorem clubs1_in (n : Nat) (hn : 1 ≤ n) (l Bs n₀ : Nat) (a : Option Addr) (c : Nat) (zs : List Int) (hlen : zs.length ≤ 1048576) (J Jx : List (Nat × Int) → World → Prop)
    (hY : ∀ pre x W, J pre W → pre.length < zs.length → YieldAt Fence.wide (n - 1) Tryd.prog l #[.int .i64 (x.1 : Int), .int .i64 x.2] W fun e W' =>
      (e = .returned (.bool true) ∧ J (pre ++ [x]) W' ∧ Below n₀ W W') ∨ (e = .returned (.bool false) ∧ Jx (pre ++ [x]) W'))
    (W : World) (hBs : W.cell? ⟨Bs, 1, none⟩ = some (.slice a zs.length c)) (hI : Ints W n₀ a zs) (h0 : J [] W) :
    CallsIn Fence.wide n Tryd.prog 87 #[.func (.yield l) #[] #[], .pointer (some ⟨Bs, 0, none⟩)] W fun e W' => (∃ v, e = .returned v) ∧
      ((∃ ys, ys = pairs zs zs.length ∧ J ys W') ∨ (∃ pre, (∃ k, k ≤ zs.length ∧ pre = pairs zs k) ∧ Jx pre W')) := by
  refine callsIn_of_wp Tryd.func87 rfl trivial ?_ rfl
  simp only [Tryd.ntmps87, List.size_toArray, List.length_cons, List.length_nil, Nat.reduceAdd, Nat.reduceSub, Array.replicate_succ, Array.replicate_zero, List.push_toArray, List.append_toArray, List.nil_append, List.cons_append]
  gi_wp2
  gi_loopw [8] (fun i wr => ∃ k : Nat, k ≤ zs.length ∧ i = .int .i64 k ∧ J (pairs zs k) wr ∧ Below n₀ W wr)
    (fun i _ => zs.length - (intOf i).toNat)
  case atStart => exact ⟨0, Nat.zero_le _, rfl, h0, Below.refl _ _⟩
  case round =>
    obtain ⟨k, hk, rfl, hJs, hnx⟩ := hrel
    by_cases hlt : k < zs.length
    · obtain ⟨b, off, rfl, hb, hc⟩ := hI.at_ hlt
      have hcx' : wr.cell? ⟨b, off + k, none⟩ = some (.int .i64 (zs[k]?.getD 0)) := (hnx.cell (p := ⟨b, off + k, none⟩) hb).trans hc
      obtain ⟨fn, tmps, assign, body, hy, hR⟩ := hY _ (k, zs[k]) wr hJs (by rw [pairs_length]; exact hlt)
      dsimp only at hy
      gi_wp2
      refine hR.mono ?_
      rintro e W3 (⟨rfl, hJ3, hk3⟩ | ⟨rfl, hJx3⟩)
      · gi_wp2
        go_roundw
        case rel => exact ⟨k + 1, by omega, by simp, by rw [pairs_succ' zs k hlt]; exact hJ3, hnx.trans hk3⟩
        case measure => simp [intOf]; omega
      · gi_wp2
        refine bodyPost_ret (results_none rfl _ _ _) rfl ?_
        exact ⟨⟨_, rfl⟩, .inr ⟨_, ⟨k + 1, by omega, (pairs_succ' zs k hlt).symm⟩, hJx3⟩⟩
    · obtain rfl : k = zs.length := by omega
      gi_wp2
      go_end0
      exact ⟨⟨_, rfl⟩, .inl ⟨_, rfl, hJs⟩⟩

/-- f.clubs(): the family is boxed; the function value holds the box. -/
theorem clubs_any (m : Int) (a : Option Addr) (n c : Nat) (w : World) :
    Calls Tryd.prog 70 #[.agg #[.int .i64 m, .slice a n c]] w fun e w' => e = .returned (.func (.func 87) #[] #[.pointer (some ⟨w.heap.size, 0, none⟩)]) ∧ w' = w.alloc (.cells #[.int .i64 m, .slice a n c] 28) := by
  have hmf : ∀ (fn : Fn) (first cap : Array Value) (w : World), (Instr.makeFunc fn first cap).run Tryd.prog w = .ok (.func fn first cap) w := fun _ _ _ _ => rfl
  go_enter Tryd.func70, Tryd.ntmps70
  go_wp2
  go_ret
  exact ⟨rfl, rfl⟩

theorem clubs_stops (n : Nat) (hn : 1 ≤ n) (Bs n₀ : Nat) (a : Option Addr) (c : Nat) (zs : List Int) (hlen : zs.length ≤ 1048576) (w : World) (hBs : Bs < w.heap.size) (hn₀ : n₀ ≤ w.heap.size)
    (hc : w.cell? ⟨Bs, 1, none⟩ = some (.slice a zs.length c)) (hI : Ints w n₀ a zs) :
    SeqStopsK Fence.wide n Tryd.prog 87 #[.pointer (some ⟨Bs, 0, none⟩)] (fun x : Nat × Int => #[Value.int .i64 (x.1 : Int), Value.int .i64 x.2]) (Below n₀) (fun ys => ys = pairs zs zs.length)
      (fun pre => ∃ k, k ≤ zs.length ∧ pre = pairs zs k) zs.length w := fun l J Jx W hW _ _ hY h0 =>
  clubs1_in n hn l Bs n₀ a c zs hlen J Jx hY W ((hW.cell (p := ⟨Bs, 1, none⟩) hBs).trans hc) (hI.below (hW.mono hn₀)) h0

end Go.Proofs.YtlfnjoogcenlhaaDoor
