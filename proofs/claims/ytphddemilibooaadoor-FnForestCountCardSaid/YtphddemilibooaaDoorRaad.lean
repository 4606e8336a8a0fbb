/- It is proved what eqFamily and the FamilyIn of the program return; conditions: the bounds in each statement. -/
import Derived.Test.YtphddemilibooaaDoorRows
import Derived.WalkKit
import Derived.WalkSpells
import Derived.ProofKit
import Derived.OpenShut
import Derived.ShutString
import Derived.ChangeOld
import Derived.Below
import Derived.Deep.RegionHeld3
import Derived.Deep.QuietTactic
import Derived.BigQuiet
import Derived.Lib.Hide
import Derived.Lib.SmallJoins
import Derived.Outline
import Derived.Laws.MakeOwn
import Derived.Laws.OwnMore
import Derived.IntWalk
import Derived.Test.YtphddemilibooaaDoorRaaa
import Derived.Test.YtphddemilibooaaDoorRaac
import Derived.Test.YtphddemilibooaaDoorRaab
import Derived.RangeFuncNested
import Derived.RangeFuncBound
import Derived.RangeFuncCalls
import Derived.RangeFuncLeaves
import Derived.RangeFuncBox
import Derived.Shelf.Abstract
import Derived.Shelf.RegionOpen
import Derived.OwnWalkIn
import Derived.TacticsInMore
import Derived.LoopNIn
import Derived.LoopIn
import Derived.Maps.AppendAt
namespace Go.Proofs.YtphddemilibooaaDoor
open Go.RowKit

theorem below2 (w : World) (o o' : Obj) : Below w.heap.size w ((w.alloc o).alloc o') := ((Below.refl _ _).alloc (Nat.le_refl _) o).alloc (by simp) o'
theorem below1 (w : World) (o : Obj) : Below w.heap.size w (w.alloc o) := (Below.refl _ _).alloc (Nat.le_refl _) o
set_option maxRecDepth 100000 in
set_option maxHeartbeats 400000 in
theorem implFamilyIn_any (m : Int) (a : Option Addr) (c : Nat) (zs : List Int) (w : World) (ha : Ints w w.heap.size a zs) (hx : zs.length ≤ 1048576) :
    Calls Tryd.prog 30 #[.agg #[.int .i64 m, .slice a zs.length c]] w fun e w' => e = .returned (.bool (famIn m zs)) ∧ Below w.heap.size w w' := by
  obtain ⟨n, hn⟩ : ∃ n, n = zs.length := ⟨_, rfl⟩
  have HN : Hid (n = zs.length) := Lib.hid hn
  rw [← hn]
  rw [← hn] at hx
  have HB := Lib.hid (below1 w (.cells #[.int .i64 m, .slice a n c] 25))
  by_cases h1 : 1 ≤ m
  · by_cases h2 : m ≤ 6
    · by_cases h3 : n ≤ 8
      · clear hn
        go_enter Tryd.func30, Tryd.ntmps30
        go_wp2
        go_loop [4, 22] (fun s i => ∃ k : Nat, k ≤ n ∧ i = .int .i64 k ∧ (∀ j, j < k → inB (zs[j]?.getD 0) 0 (fullI m) = true)) (fun _ i => n - (intOf i).toNat)
        case atStart => exact ⟨0, Nat.zero_le _, rfl, fun j hj => by omega⟩
        case round =>
          obtain ⟨k, hk, rfl, he⟩ := hrel
          by_cases hlt : k < n
          · obtain ⟨b1, o1, rfl, hb1, hc1⟩ := ha.at_ (k := k) (by rw [← HN.out]; exact hlt)
            have c1 := (HB.out.cell (p := ⟨b1, o1 + k, none⟩) hb1).trans hc1
            have HE := Lib.hid he
            clear he hc1
            cases hs : inB (zs[k]?.getD 0) 0 (fullI m)
            · have HS := Lib.hid hs
              have HF : Hid (famIn m zs = false) := Lib.hid (famIn_z (by rw [← HN.out]; exact hlt) hs)
              clear hs
              go_wp2_with (go_at_call 59; refine (setIn_any _ _ _ h1 h2).mono ?_; rintro e w' ⟨rfl, rfl⟩; rw [HS.out])
              go_ret
              exact ⟨by rw [HF.out]; rfl, HB.out⟩
            · have HS := Lib.hid hs
              clear hs
              go_wp2_with (go_at_call 59; refine (setIn_any _ _ _ h1 h2).mono ?_; rintro e w' ⟨rfl, rfl⟩; rw [HS.out])
              go_round
              case rel => exact ⟨k + 1, by omega, by go_num, fun j hj => by
                rcases Nat.lt_succ_iff_lt_or_eq.1 hj with h | rfl
                · exact HE.out j h
                · exact HS.out⟩
              case measure => simp [intOf]; omega
          · obtain rfl : k = n := by omega
            have HF : Hid (famIn m zs = true) := Lib.hid (famIn_y (inB_true h1 h2) (by rw [← HN.out]; exact h3) (by rw [← HN.out]; exact he))
            clear he
            go_wp2
            go_ret
            exact ⟨by rw [HF.out]; rfl, HB.out⟩
      · have HF : Hid (famIn m zs = false) := Lib.hid (famIn_l (by omega))
        clear hn
        go_enter Tryd.func30, Tryd.ntmps30
        go_wp2
        go_ret
        exact ⟨by rw [HF.out]; rfl, HB.out⟩
    · have HF : Hid (famIn m zs = false) := Lib.hid (famIn_m (inB_false (.inr (by omega))))
      clear hn
      go_enter Tryd.func30, Tryd.ntmps30
      go_wp2
      go_ret
      exact ⟨by rw [HF.out]; rfl, HB.out⟩
  · have HF : Hid (famIn m zs = false) := Lib.hid (famIn_m (inB_false (.inl (by omega))))
    clear hn
    go_enter Tryd.func30, Tryd.ntmps30
    go_wp2
    go_ret
    exact ⟨by rw [HF.out]; rfl, HB.out⟩

end Go.Proofs.YtphddemilibooaaDoor

/- It is proved what the iterator over a family's clubs yields; conditions: those of each statement. -/
namespace Go.Proofs.YtphddemilibooaaDoor
open Go.RowKit Go.Shelf

attribute [local go_sem] Oper.semAt_some

/-- The first k places with the clubs there. -/
def pairs (zs : List Int) (k : Nat) : List (Nat × Int) := (List.range k).map fun j => (j, zs[j]?.getD 0)

theorem pairs_succ (zs : List Int) (k : Nat) : pairs zs (k + 1) = pairs zs k ++ [(k, zs[k]?.getD 0)] := by simp [pairs, List.range_succ]
theorem pairs_succ' (zs : List Int) (k : Nat) (h : k < zs.length) : pairs zs (k + 1) = pairs zs k ++ [(k, zs[k])] := by rw [pairs_succ]; simp [h]
theorem pairs_length (zs : List Int) (k : Nat) : (pairs zs k).length = k := by simp [pairs]
theorem pairs_snd (zs : List Int) (k : Nat) (h : k ≤ zs.length) : (pairs zs k).map (·.2) = zs.take k := by
  apply List.ext_getElem
  · simp [pairs, h]
  · intro i h1 h2
    have : i < zs.length := by simp [pairs] at h1; omega
    simp [pairs, this]

theorem pairs_all (zs : List Int) : (pairs zs zs.length).map (·.2) = zs := by rw [pairs_snd zs _ (Nat.le_refl _), List.take_length]
set_option maxRecDepth 100000 in
set_option maxHeartbeats 2000000 in
theorem clubs1_in (n : Nat) (hn : 1 ≤ n) (l Bs n₀ : Nat) (a : Option Addr) (c : Nat) (zs : List Int) (hlen : zs.length ≤ 1048576) (J Jx : List (Nat × Int) → World → Prop)
    (hY : ∀ pre x W, J pre W → pre.length < zs.length → YieldAt Fence.wide (n - 1) Tryd.prog l #[.int .i64 (x.1 : Int), .int .i64 x.2] W fun e W' =>
      (e = .returned (.bool true) ∧ J (pre ++ [x]) W' ∧ Below n₀ W W') ∨ (e = .returned (.bool false) ∧ Jx (pre ++ [x]) W'))
    (W : World) (hBs : W.cell? ⟨Bs, 1, none⟩ = some (.slice a zs.length c)) (hI : Ints W n₀ a zs) (h0 : J [] W) :
    CallsIn Fence.wide n Tryd.prog 63 #[.func (.yield l) #[] #[], .pointer (some ⟨Bs, 0, none⟩)] W fun e W' => (∃ v, e = .returned v) ∧
      ((∃ ys, ys = pairs zs zs.length ∧ J ys W') ∨ (∃ pre, (∃ k, k ≤ zs.length ∧ pre = pairs zs k) ∧ Jx pre W')) := by
  refine callsIn_of_wp Tryd.func63 rfl trivial ?_ rfl
  simp only [Tryd.ntmps63, List.size_toArray, List.length_cons, List.length_nil, Nat.reduceAdd, Nat.reduceSub, Array.replicate_succ, Array.replicate_zero, List.push_toArray, List.append_toArray, List.nil_append, List.cons_append]
  gi_wp2
  gi_loopw [8] (fun i wr => ∃ k : Nat, k ≤ zs.length ∧ i = .int .i64 k ∧ J (pairs zs k) wr ∧ Below n₀ W wr)
    (fun i _ => zs.length - (intOf i).toNat)
  case atStart => exact ⟨0, Nat.zero_le _, rfl, h0, Below.refl _ _⟩
  case round =>
    obtain ⟨k, hk, rfl, hJs, hnx⟩ := hrel
    by_cases hlt : k < zs.length
    · obtain ⟨b, off, rfl, hb, hc⟩ := hI.at_ hlt
      have hcx' : wr.cell? ⟨b, off + k, none⟩ = some (.int .i64 (zs[k]?.getD 0)) := (hnx.cell (p := ⟨b, off + k, none⟩) hb).trans hc
      obtain ⟨fn, tmps, assign, body, hy, hR⟩ := hY _ (k, zs[k]) wr hJs (by rw [pairs_length]; exact hlt)
      dsimp only at hy
      gi_wp2
      refine hR.mono ?_
      rintro e W3 (⟨rfl, hJ3, hk3⟩ | ⟨rfl, hJx3⟩)
      · gi_wp2
        go_roundw
        case rel => exact ⟨k + 1, by omega, by simp, by rw [pairs_succ' zs k hlt]; exact hJ3, hnx.trans hk3⟩
        case measure => simp [intOf]; omega
      · gi_wp2
        refine bodyPost_ret (results_none rfl _ _ _) rfl ?_
        exact ⟨⟨_, rfl⟩, .inr ⟨_, ⟨k + 1, by omega, (pairs_succ' zs k hlt).symm⟩, hJx3⟩⟩
    · obtain rfl : k = zs.length := by omega
      gi_wp2
      go_end0
      exact ⟨⟨_, rfl⟩, .inl ⟨_, rfl, hJs⟩⟩

/-- f.clubs(): the family is boxed; the function value holds the box. -/
theorem clubs_any (m : Int) (a : Option Addr) (n c : Nat) (w : World) :
    Calls Tryd.prog 37 #[.agg #[.int .i64 m, .slice a n c]] w fun e w' => e = .returned (.func (.func 63) #[] #[.pointer (some ⟨w.heap.size, 0, none⟩)]) ∧ w' = w.alloc (.cells #[.int .i64 m, .slice a n c] 25) := by
  have hmf : ∀ (fn : Fn) (first cap : Array Value) (w : World), (Instr.makeFunc fn first cap).run Tryd.prog w = .ok (.func fn first cap) w := fun _ _ _ _ => rfl
  go_enter Tryd.func37, Tryd.ntmps37
  go_wp2
  go_ret
  exact ⟨rfl, rfl⟩

theorem clubs_stops (n : Nat) (hn : 1 ≤ n) (Bs n₀ : Nat) (a : Option Addr) (c : Nat) (zs : List Int) (hlen : zs.length ≤ 1048576) (w : World) (hBs : Bs < w.heap.size) (hn₀ : n₀ ≤ w.heap.size)
    (hc : w.cell? ⟨Bs, 1, none⟩ = some (.slice a zs.length c)) (hI : Ints w n₀ a zs) :
    SeqStopsK Fence.wide n Tryd.prog 63 #[.pointer (some ⟨Bs, 0, none⟩)] (fun x : Nat × Int => #[Value.int .i64 (x.1 : Int), Value.int .i64 x.2]) (Below n₀) (fun ys => ys = pairs zs zs.length)
      (fun pre => ∃ k, k ≤ zs.length ∧ pre = pairs zs k) zs.length w := fun l J Jx W hW _ _ hY h0 =>
  clubs1_in n hn l Bs n₀ a c zs hlen J Jx hY W ((hW.cell (p := ⟨Bs, 1, none⟩) hBs).trans hc) (hI.below (hW.mono hn₀)) h0

end Go.Proofs.YtphddemilibooaaDoor
