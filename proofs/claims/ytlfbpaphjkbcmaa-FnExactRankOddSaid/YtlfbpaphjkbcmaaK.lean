/- It is proved what markIntS, markFamily, heldIntS and heldFamily return and write; conditions: the bounds in each statement. -/
import Derived.Test.YtlfbpaphjkbcmaaRows
import Derived.WalkKit
import Derived.WalkSpells
import Derived.ProofKit
import Derived.OpenShut
import Derived.ShutString
import Derived.ChangeOld
import Derived.Below
import Derived.Deep.RegionHeld3
import Derived.Deep.QuietTactic
import Derived.BigQuiet
import Derived.Lib.Hide
import Derived.Lib.SmallJoins
import Derived.Outline
import Derived.Laws.MakeOwn
import Derived.Laws.OwnMore
import Derived.IntWalk
import Derived.Test.YtlfbpaphjkbcmaaB
import Derived.Test.YtlfbpaphjkbcmaaE
namespace Go.Proofs.Ytlfbpaphjkbcmaa
open Go.RowKit

/-- 1, 2, .., n. -/
def marks (n : Nat) : List Int := (List.range n).map fun (i : Nat) => ((i : Int) + 1)

theorem marks_length (n : Nat) : (marks n).length = n := by simp [marks]
theorem marks_succ (n : Nat) : marks (n + 1) = marks n ++ [(n : Int) + 1] := by simp [marks, List.range_succ]
theorem marks_at (n k : Nat) (h : k < n) : (marks n)[k]?.getD 0 = (k : Int) + 1 := by simp [marks, h]
theorem only_setCell {a w : World} {g : Nat} (h : a.grownBy w (some g)) {p : Addr} (hp : p.block = g) (u : Value) : a.grownBy (w.setCell p u) (some g) :=
  ⟨h.os, h.tape, h.output, by simpa [World.setCell] using h.size, fun i hi hne => (Below.heap_setCell w p u i (by rintro rfl; exact hne (by rw [hp]))).trans (h.block i hi hne)⟩

theorem only_of_below {a w : World} (h : Below a.heap.size a w) (row : Option Nat) : a.grownBy w row := ⟨h.os, h.tape, h.output, h.size, fun i hi _ => h.block i hi⟩
theorem only_trans {a b c : World} {row : Option Nat} (h : a.grownBy b row) (k : b.grownBy c row) : a.grownBy c row :=
  ⟨k.os.trans h.os, k.tape.trans h.tape, k.output.trans h.output, Nat.le_trans h.size k.size, fun i hi hne => (k.block i (Nat.lt_of_lt_of_le hi h.size) hne).trans (h.block i hi hne)⟩

theorem mark_step (zs : List Int) (k : Nat) (h : k < zs.length) :
    ((marks k ++ zs.drop k).map (Value.int .i64)).set k (.int .i64 ((k : Int) + 1)) = (marks (k + 1) ++ zs.drop (k + 1)).map (Value.int .i64) := by
  rw [← List.map_set]
  congr 1
  rw [List.set_append_right _ _ (by rw [marks_length]; omega), marks_length, Nat.sub_self, List.drop_eq_getElem_cons h, List.set_cons_zero, marks_succ, List.append_assoc]
  rfl

theorem mark_cell (zs : List Int) (k : Nat) (h : k < zs.length) : ((marks k ++ zs.drop k).map (Value.int .i64))[k]? = some (.int .i64 (zs[k]?.getD 0)) := by
  rw [List.getElem?_map, List.getElem?_append_right (by rw [marks_length]; omega), marks_length, Nat.sub_self]
  simp [h]

/-- A row of n ints of the call's own, its length a letter of its own. -/
def OwnN (w : World) (B : Nat) (a : Option Addr) (n cap : Nat) (zs : List Int) : Prop := w.ownsRow B 3 1 (.slice a n cap) n (zs.map (Value.int .i64))

theorem OwnN.addr {w : World} {B : Nat} {a : Option Addr} {n cap : Nat} {zs : List Int} (h : OwnN w B a n cap zs) (hn : 0 < n) : ∃ g, a = some ⟨g, 0, none⟩ ∧ B ≤ g ∧ g < w.heap.size := by
  rcases h.2 with ⟨_, hn'⟩ | ⟨g, c, cur, e, hb, hg, _⟩
  · omega
  · injection e with e1 e2 e3
    exact ⟨g, e1, hb, (Array.getElem?_eq_some_iff.1 hg).1⟩

def Marked (W : World) (B : Nat) (a : Option Addr) (n cap : Nat) (e : Ending) (W' : World) : Prop :=
  e = .returned (.int .i64 ((n : Int) + 1)) ∧ OwnI W' B (.slice a n cap) (marks n) ∧ W.grownBy W' (Value.slice a n cap).ownBlock

set_option maxRecDepth 100000 in
set_option maxHeartbeats 400000 in
theorem markIntS_any (a : Option Addr) (cap B : Nat) (zs : List Int) (w : World) (ho : OwnI w B (.slice a zs.length cap) zs) (hn : zs.length ≤ 1048576) :
    Calls Try.prog 15 #[.slice a zs.length cap, .int .i64 1] w (Marked w B a zs.length cap) := by
  obtain ⟨n, hl⟩ : ∃ n, n = zs.length := ⟨_, rfl⟩
  have HN : Hid (n = zs.length) := Lib.hid hl
  have hnz : n ≤ zs.length := by omega
  have hO : Hid (OwnN w B a n cap (marks 0 ++ zs.drop 0)) := Lib.hid (by rw [hl]; exact ho)
  rw [← hl] at hn ⊢
  clear hl ho
  go_enter Try.func15, Try.ntmps15
  go_wp2
  go_loopw [1, 5] (fun kk i wr => ∃ k : Nat, k ≤ n ∧ i = .int .i64 k ∧ kk = .int .i64 ((k : Int) + 1) ∧ OwnN wr B a n cap (marks k ++ zs.drop k) ∧ w.grownBy wr (Value.slice a n cap).ownBlock) (fun _ i _ => n - (intOf i).toNat)
  case atStart => exact ⟨0, Nat.zero_le _, rfl, rfl, hO.out, World.grownBy.refl _ _⟩
  case round =>
    obtain ⟨k, hk, rfl, rfl, ho, hg⟩ := hrel
    by_cases hlt : k < n
    · obtain ⟨g, rfl, hgB, hgs⟩ := ho.addr (by omega)
      have hcs : wr.cell? ⟨g, k, none⟩ = some (.int .i64 (zs[k]?.getD 0)) := by
        rw [World.ownsRow.cellAt ho k (by omega)]; exact mark_cell zs k (by omega)
      have hfz := World.ownsRow.frozenAt ho k
      have HS := Lib.hid (World.ownsRow.stored ho k (.int .i64 ((k : Int) + 1)))
      have HG := Lib.hid hg
      clear ho hg
      go_wp2
      go_roundw
      case rel => exact ⟨k + 1, by omega, by go_num, by go_num, by have h1 := HS.out.1; rw [mark_step zs k (by omega)] at h1; exact h1, only_setCell (p := ⟨g, k, none⟩) HG.out rfl _⟩
      case measure => simp [intOf]; omega
    · obtain rfl : k = n := by omega
      have HD : Hid (Marked w B a k cap (.returned (.int .i64 ((k : Int) + 1))) wr) := by
        refine ⟨rfl, ?_, hg⟩
        have ho' := ho
        unfold OwnN at ho'
        rw [List.drop_eq_nil_of_le (by have := HN.out; omega), List.append_nil] at ho'
        unfold OwnI
        rw [marks_length]
        exact ho'
      clear ho hg
      go_wp2
      go_ret
      exact HD.out

set_option maxRecDepth 100000 in
set_option maxHeartbeats 400000 in
theorem markFamily_any (m : Int) (a : Option Addr) (cap B : Nat) (zs : List Int) (w : World) (ho : OwnI w B (.slice a zs.length cap) zs) (hn : zs.length ≤ 1048576) :
    Calls Try.prog 14 #[.agg #[.int .i64 m, .slice a zs.length cap], .int .i64 1] w (Marked w B a zs.length cap) := by
  have HO : Hid (OwnI (w.alloc (.cells #[.int .i64 m, .slice a zs.length cap] 28)) B (.slice a zs.length cap) zs) := Lib.hid (World.ownsRow.alloc ho _)
  clear ho
  go_enter Try.func14, Try.ntmps14
  go_wp2_with fail
  refine (markIntS_any _ _ _ zs _ HO.out hn).mono ?_
  rintro e w' ⟨rfl, ho, hg⟩
  have HD : Hid (Marked w B a zs.length cap (.returned (.int .i64 ((zs.length : Int) + 1))) w') := ⟨rfl, ho, only_trans (World.grownBy_alloc w _ _) hg⟩
  clear ho hg
  go_wp2
  go_ret
  exact HD.out

set_option maxRecDepth 100000 in
set_option maxHeartbeats 400000 in
theorem heldIntS_any (a : Option Addr) (cap n B : Nat) (w : World) (ha : Ints w B a (marks n)) (hn : n ≤ 1048576) :
    Calls Try.prog 16 #[.slice a n cap, .int .i64 1] w fun e w' => e = .returned (.int .i64 ((n : Int) + 1)) ∧ w = w' := by
  go_enter Try.func16, Try.ntmps16
  go_wp2
  go_loop [1, 5] (fun kk i => ∃ k : Nat, k ≤ n ∧ i = .int .i64 k ∧ kk = .int .i64 ((k : Int) + 1)) (fun _ i => n - (intOf i).toNat)
  case atStart => exact ⟨0, Nat.zero_le _, rfl, rfl⟩
  case round =>
    obtain ⟨k, hk, rfl, rfl⟩ := hrel
    by_cases hlt : k < n
    · obtain ⟨b, off, rfl, hb, hc⟩ := ha.at_ (k := k) (by rw [marks_length]; exact hlt)
      rw [marks_at n k hlt] at hc
      go_wp2
      go_round
      case rel => exact ⟨k + 1, by omega, by go_num, by go_num⟩
      case measure => simp [intOf]; omega
    · obtain rfl : k = n := by omega
      go_wp2
      go_ret
      exact ⟨rfl, rfl⟩

end Go.Proofs.Ytlfbpaphjkbcmaa
