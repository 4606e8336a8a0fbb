/- It is proved what the reader's pick returns and writes; conditions: those of each statement. -/
import Derived.Deep.QuietTactic
import Derived.BigQuiet
import Derived.Test.YtgpgocijacgkhaaDoorRows
import Derived.WalkKit
import Derived.WalkSpells
import Derived.ProofKit
import Derived.OpenShut
import Derived.ShutString
import Derived.ChangeOld
import Derived.Below
import Derived.Deep.RegionHeld3
import Derived.Lib.Hide
import Derived.Lib.SmallJoins
import Derived.Outline
import Derived.Laws.MakeOwn
import Derived.Laws.OwnMore
import Derived.IntWalk
import Derived.RangeFuncNested
import Derived.RangeFuncBound
import Derived.RangeFuncCalls
import Derived.RangeFuncLeaves
import Derived.RangeFuncBox
import Derived.Shelf.Abstract
import Derived.Shelf.RegionOpen
import Derived.OwnWalkIn
import Derived.TacticsInMore
import Derived.LoopNIn
import Derived.LoopIn
import Derived.Maps.AppendAt
import Derived.Deep.AppendLies
import Derived.Test.YtgpgocijacgkhaaDoorRaaa
namespace Go.Proofs.YtgpgocijacgkhaaDoor
open Go.RowKit

/-- The reader lies in block R: its bytes, its place. -/
def Rd (W : World) (R : Nat) (b : Option Addr) (n cap p : Nat) : Prop := HasBlk W R #[.slice b n cap, .int .i64 (p : Int)] 87

/-- n bytes, below block B. -/
def Bys (W : World) (B : Nat) (b : Option Addr) (n : Nat) : Prop :=
  n = 0 ∨ ∃ g off, b = some ⟨g, off, none⟩ ∧ g < B ∧ ∀ j, j < n → ∃ z : Nat, z < 256 ∧ W.cell? ⟨g, off + j, none⟩ = some (.int .u8 (z : Int))

/-- What pick leaves: a number in its range; the reader one place on; nothing else has turned. -/
def Picked (w : World) (R : Nat) (b : Option Addr) (n cap p : Nat) (x : Int) (e : Ending) (w' : World) : Prop :=
  ∃ r : Int, e = .returned (.int .i64 r) ∧ 0 ≤ r ∧ (1 ≤ x → r < x) ∧ Rd w' R b n cap (p + 1) ∧ w.grownBy w' (some R)

theorem xor_i64_nat (a b : Nat) (ha : a < 4611686018427387904) (hb : b < 4611686018427387904) : bits .xor .i64 (a : Int) (b : Int) = ((a ^^^ b : Nat) : Int) := by
  have hx : a ^^^ b < 2 ^ 62 := Nat.xor_lt_two_pow (by omega) (by omega)
  have h1 : (BitVec.ofInt 64 (a : Int)).toNat = a := by
    rw [BitVec.ofInt_natCast, BitVec.toNat_ofNat]; exact Nat.mod_eq_of_lt (by omega)
  have h2 : (BitVec.ofInt 64 (b : Int)).toNat = b := by
    rw [BitVec.ofInt_natCast, BitVec.toNat_ofNat]; exact Nat.mod_eq_of_lt (by omega)
  show IntKind.i64.wrap ((BitVec.ofInt 64 (a : Int) ^^^ BitVec.ofInt 64 (b : Int)).toNat : Int) = _
  rw [BitVec.toNat_xor, h1, h2, IntKind.wrap_i64]
  omega

theorem picked_end {R : Nat} {b : Option Addr} {n cap p : Nat} {x : Int} {w : World} (hR : Rd w R b n cap p) (r : Int) (h0 : 0 ≤ r) (h1 : 1 ≤ x → r < x) :
    Picked w R b n cap p x (.returned (.int .i64 r)) (w.setCell ⟨R, 1, none⟩ (.int .i64 ((p : Int) + 1))) :=
  ⟨r, rfl, h0, h1, heap_setCell_same w R 1 _ 87 _ hR, only_setCell (p := ⟨R, 1, none⟩) (World.grownBy.refl w (some R)) rfl _⟩

theorem picked_drawn {R : Nat} {b : Option Addr} {n cap p : Nat} {x : Int} {w W : World} {e : Ending} (k : Nat) (h : Picked w R b n cap p x e W) : Picked w R b n cap p x e (W.drewN k) := by
  obtain ⟨r, h1, h2, h3, h4, h5⟩ := h
  exact ⟨r, h1, h2, h3, h4, ⟨h5.os, h5.tape, h5.output, h5.size, h5.block⟩⟩

set_option maxRecDepth 100000 in
set_option maxHeartbeats 2000000 in
theorem pick_any (R : Nat) (b : Option Addr) (n cap p : Nat) (x : Int) (w : World) (hR : Rd w R b n cap p) (hb : Bys w R b n) (hn : n ≤ 1048576) (hp : p ≤ 1000000) :
    Calls Tryd.prog 41 #[.pointer (some ⟨R, 0, none⟩), .int .i64 x] w (Picked w R b n cap p x) := by
  have d0 := blk_cell hR 0
  have d1 := blk_cell hR 1
  have f1 := blk_frozen hR 1
  simp only [cell2_0, cell2_1] at d0 d1
  have HR := Lib.hid hR
  clear hR
  by_cases h1 : x < 1
  · go_enter Tryd.func41, Tryd.ntmps41
    go_wp2
    go_ret
    exact picked_end HR.out 0 (by omega) (by omega)
  · by_cases hn0 : n = 0
    · subst hn0
      go_enter Tryd.func41, Tryd.ntmps41
      go_wp2
      go_ret
      exact picked_end HR.out 0 (by omega) (by omega)
    · by_cases hk : p < n
      · obtain ⟨g, off, rfl, hg, hc⟩ := hb.resolve_left hn0
        obtain ⟨z, hz, hcz⟩ := hc p hk
        have hcz' := (World.cell?_setCell_other w ⟨R, 1, none⟩ ⟨g, off + p, none⟩ (.int .i64 ((p : Int) + 1)) (fun e => by injection e; omega)).trans hcz
        go_enter Tryd.func41, Tryd.ntmps41
        go_wp2
        go_ret
        exact picked_end HR.out ((z : Int) % x) (Int.emod_nonneg _ (by omega)) (fun _ => Int.emod_lt_of_pos _ (by omega))
      · obtain ⟨g, off, rfl, hg, hc⟩ := hb.resolve_left hn0
        obtain ⟨i1, hi1⟩ : ∃ i1 : Nat, (p : Int) % (n : Int) = (i1 : Int) := ⟨p % n, by omega⟩
        obtain ⟨i2, hi2⟩ : ∃ i2 : Nat, ((p : Int) * 7 + 3) % (n : Int) = (i2 : Int) := ⟨(p * 7 + 3) % n, by push_cast; rfl⟩
        obtain ⟨q, hq⟩ : ∃ q : Nat, (p : Int) / (n : Int) = (q : Int) := ⟨p / n, by omega⟩
        have hj1 : i1 < n := by have h2 := Int.emod_lt_of_pos (p : Int) (b := (n : Int)) (by omega); omega
        have hj2 : i2 < n := by have h2 := Int.emod_lt_of_pos ((p : Int) * 7 + 3) (b := (n : Int)) (by omega); omega
        have hqp : q ≤ p := by have h2 := Int.ediv_le_self (n : Int) (show (0 : Int) ≤ (p : Int) by omega); omega
        obtain ⟨z1, hz1, hc1⟩ := hc i1 hj1
        obtain ⟨z2, hz2, hc2⟩ := hc i2 hj2
        have hc1' := (World.cell?_setCell_other w ⟨R, 1, none⟩ ⟨g, off + i1, none⟩ (.int .i64 ((p : Int) + 1)) (fun e => by injection e; omega)).trans hc1
        have hc2' := (World.cell?_setCell_other w ⟨R, 1, none⟩ ⟨g, off + i2, none⟩ (.int .i64 ((p : Int) + 1)) (fun e => by injection e; omega)).trans hc2
        have hpn : ¬ ((p : Int) < (n : Int)) := by omega
        have hn1 : (0 : Int) < (n : Int) := by omega
        clear hc
        go_enter Tryd.func41, Tryd.ntmps41
        go_wp2
        go_quiet (fail)
        obtain ⟨X, hX⟩ : ∃ X : Nat, (z1 : Int) * 131 + (z2 : Int) * 1117 + (p : Int) * 29 + (q : Int) * 53 = (X : Int) := ⟨z1 * 131 + z2 * 1117 + p * 29 + q * 53, by push_cast; rfl⟩
        have HXR : Hid (bits .xor .i64 (X : Int) ((X : Int) / 64) = ((X ^^^ (X / 64) : Nat) : Int)) := Lib.hid (by
          rw [show (X : Int) / 64 = ((X / 64 : Nat) : Int) from by omega]
          exact xor_i64_nat X (X / 64) (by omega) (by omega))
        rw [hX]
        have hX2 : (X : Int) ≤ 100000000 := by omega
        clear hX hi1 hi2 hq hc1 hc2 hc1' hc2'
        go_wp2
        go_ret
        refine picked_drawn nq ?_
        rw [HXR.out]
        exact picked_end HR.out _ (Int.tmod_nonneg _ (by omega)) (fun _ => Int.tmod_lt_of_pos _ (by omega))

end Go.Proofs.YtgpgocijacgkhaaDoor

/- It is proved what l6In, l1All and setIn return; conditions: the bounds in each statement. -/
namespace Go.Proofs.YtgpgocijacgkhaaDoor
open Go.RowKit

def inB (n lo hi : Int) : Bool := decide (lo ≤ n) && decide (n ≤ hi)
theorem inB_true {n lo hi : Int} (h1 : lo ≤ n) (h2 : n ≤ hi) : inB n lo hi = true := by simp [inB, h1, h2]
theorem inB_false {n lo hi : Int} (h : n < lo ∨ hi < n) : inB n lo hi = false := by
  simp [inB]; omega

theorem inB_out {n lo hi : Int} (h : inB n lo hi = true) : lo ≤ n ∧ n ≤ hi := by simpa [inB] using h
theorem inB_no {n lo hi : Int} (h : inB n lo hi = false) : n < lo ∨ hi < n := by
  simp [inB] at h; omega

theorem l6In_any (n lo hi : Int) (w : World) :
    Calls Tryd.prog 43 #[.int .i64 n, .int .i64 lo, .int .i64 hi] w fun e w' => e = .returned (.bool (inB n lo hi)) ∧ w = w' := by
  by_cases h1 : lo ≤ n
  · by_cases h2 : n ≤ hi
    · rw [inB_true h1 h2]
      go_enter Tryd.func43, Tryd.ntmps43
      go_wp2
      go_ret
      exact ⟨rfl, rfl⟩
    · rw [inB_false (.inr (by omega))]
      go_enter Tryd.func43, Tryd.ntmps43
      go_wp2
      go_ret
      exact ⟨rfl, rfl⟩
  · rw [inB_false (.inl (by omega))]
    have h3 : n < lo := by omega
    go_enter Tryd.func43, Tryd.ntmps43
    go_wp2
    go_ret
    exact ⟨rfl, rfl⟩

/-- The set of all members. -/
def fullI (m : Int) : Int := 2 ^ m.toNat - 1

theorem m16 {m : Int} (h1 : 1 ≤ m) (h2 : m ≤ 6) : m = 1 ∨ m = 2 ∨ m = 3 ∨ m = 4 ∨ m = 5 ∨ m = 6 := by omega
theorem l1All_any (m : Int) (a : Option Addr) (n cap : Nat) (w : World) (h1 : 1 ≤ m) (h2 : m ≤ 6) :
    Calls Tryd.prog 44 #[.agg #[.int .i64 m, .slice a n cap]] w fun e w' => e = .returned (.int .i64 (fullI m)) ∧ w.alloc (.cells #[.int .i64 m, .slice a n cap] 25) = w' := by
  rcases m16 h1 h2 with rfl | rfl | rfl | rfl | rfl | rfl
  all_goals
    go_enter Tryd.func44, Tryd.ntmps44
    go_wp2
    go_ret
    exact ⟨rfl, rfl⟩

theorem setIn_any (m z : Int) (w : World) (h1 : 1 ≤ m) (h2 : m ≤ 6) :
    Calls Tryd.prog 42 #[.int .i64 m, .int .i64 z] w fun e w' => e = .returned (.bool (inB z 0 (fullI m))) ∧ w = w' := by
  by_cases hz : 0 ≤ z
  · by_cases hf : z ≤ fullI m
    · rw [inB_true hz hf]
      rcases m16 h1 h2 with rfl | rfl | rfl | rfl | rfl | rfl
      all_goals
        simp [fullI] at hf
        go_enter Tryd.func42, Tryd.ntmps42
        go_wp2
        go_ret
        exact ⟨by simp; omega, rfl⟩
    · rw [inB_false (.inr (by omega))]
      rcases m16 h1 h2 with rfl | rfl | rfl | rfl | rfl | rfl
      all_goals
        simp [fullI] at hf
        go_enter Tryd.func42, Tryd.ntmps42
        go_wp2
        go_ret
        exact ⟨by simp; omega, rfl⟩
  · rw [inB_false (.inl (by omega))]
    have hz' : z < 0 := by omega
    go_enter Tryd.func42, Tryd.ntmps42
    go_wp2
    go_ret
    exact ⟨rfl, rfl⟩

/-- A family is one. -/
def famIn (m : Int) (zs : List Int) : Bool := inB m 1 6 && (decide (zs.length ≤ 8) && zs.all fun z => inB z 0 (fullI m))

theorem famIn_out {m : Int} {zs : List Int} (h : famIn m zs = true) : 1 ≤ m ∧ m ≤ 6 ∧ zs.length ≤ 8 ∧ ∀ z ∈ zs, 0 ≤ z ∧ z ≤ fullI m := by
  simp only [famIn, Bool.and_eq_true, decide_eq_true_eq, List.all_eq_true] at h
  exact ⟨(inB_out h.1).1, (inB_out h.1).2, h.2.1, fun z hz => inB_out (h.2.2 z hz)⟩

theorem famIn_m {m : Int} {zs : List Int} (h : inB m 1 6 = false) : famIn m zs = false := by simp [famIn, h]
theorem famIn_l {m : Int} {zs : List Int} (h : 8 < zs.length) : famIn m zs = false := by simp [famIn]; intros; omega
theorem famIn_z {m : Int} {zs : List Int} {k : Nat} (hk : k < zs.length) (h : inB (zs[k]?.getD 0) 0 (fullI m) = false) : famIn m zs = false := by
  have : (zs.all fun z => inB z 0 (fullI m)) = false := by
    rw [List.all_eq_false]
    refine ⟨zs[k], List.getElem_mem _, ?_⟩
    simp [hk] at h
    simp [h]
  simp [famIn, this]

theorem famIn_y {m : Int} {zs : List Int} (h1 : inB m 1 6 = true) (h2 : zs.length ≤ 8) (h : ∀ k, k < zs.length → inB (zs[k]?.getD 0) 0 (fullI m) = true) : famIn m zs = true := by
  simp only [famIn, Bool.and_eq_true, decide_eq_true_eq, List.all_eq_true]
  refine ⟨h1, h2, fun z hz => ?_⟩
  obtain ⟨k, hk, rfl⟩ := List.getElem_of_mem hz
  have := h k hk
  simpa [hk] using this

end Go.Proofs.YtgpgocijacgkhaaDoor

/- It is proved what eqIntS returns; conditions: the bounds in each statement. -/
namespace Go.Proofs.YtgpgocijacgkhaaDoor
open Go.RowKit

theorem Ints.at_ {w : World} {B : Nat} {a : Option Addr} {zs : List Int} (h : Ints w B a zs) {k : Nat} (hk : k < zs.length) :
    ∃ b off, a = some ⟨b, off, none⟩ ∧ b < B ∧ w.cell? ⟨b, off + k, none⟩ = some (.int .i64 (zs[k]?.getD 0)) := by
  rcases h with h | ⟨b, off, e, hb, hc⟩
  · subst h; simp at hk
  · exact ⟨b, off, e, hb, hc k hk⟩

theorem below_drewN {B : Nat} {a w : World} (h : Below B a w) (n : Nat) : Below B a (w.drewN n) := ⟨h.os, h.tape, h.output, h.size, h.block⟩
theorem eqs_false {xs ys : List Int} {k : Nat} (_hx : k < xs.length) (hy : k < ys.length) (h : xs[k]?.getD 0 ≠ ys[k]?.getD 0) : decide (xs = ys) = false := by
  simp only [decide_eq_false_iff_not]; rintro rfl; exact h rfl

theorem eqs_true {xs ys : List Int} (hl : xs.length = ys.length) (h : ∀ j, j < xs.length → xs[j]?.getD 0 = ys[j]?.getD 0) : decide (xs = ys) = true := by
  simp only [decide_eq_true_eq]
  apply List.ext_getElem hl
  intro i h1 h2
  have := h i h1
  simpa [h1, h2] using this

/-- Two lists are the same: a plain name, so that the walk does not take it apart. -/
def sameB (xs ys : List Int) : Bool := decide (xs = ys)

end Go.Proofs.YtgpgocijacgkhaaDoor

/- It is proved what eqFamily and the FamilyIn of the program return; conditions: the bounds in each statement. -/
namespace Go.Proofs.YtgpgocijacgkhaaDoor
open Go.RowKit

def sameF (m : Int) (xs : List Int) (k : Int) (ys : List Int) : Bool := decide (m = k) && sameB xs ys
theorem sameF_self (m : Int) (xs : List Int) : sameF m xs m xs = true := by simp [sameF, sameB]
theorem below2 (w : World) (o o' : Obj) : Below w.heap.size w ((w.alloc o).alloc o') := ((Below.refl _ _).alloc (Nat.le_refl _) o).alloc (by simp) o'
theorem below1 (w : World) (o : Obj) : Below w.heap.size w (w.alloc o) := (Below.refl _ _).alloc (Nat.le_refl _) o
set_option maxRecDepth 100000 in
set_option maxHeartbeats 400000 in
theorem implFamilyIn_any (m : Int) (a : Option Addr) (c : Nat) (zs : List Int) (w : World) (ha : Ints w w.heap.size a zs) (hx : zs.length ≤ 1048576) :
    Calls Tryd.prog 11 #[.agg #[.int .i64 m, .slice a zs.length c]] w fun e w' => e = .returned (.bool (famIn m zs)) ∧ Below w.heap.size w w' := by
  obtain ⟨n, hn⟩ : ∃ n, n = zs.length := ⟨_, rfl⟩
  have HN : Hid (n = zs.length) := Lib.hid hn
  rw [← hn]
  rw [← hn] at hx
  have HB := Lib.hid (below1 w (.cells #[.int .i64 m, .slice a n c] 25))
  by_cases h1 : 1 ≤ m
  · by_cases h2 : m ≤ 6
    · by_cases h3 : n ≤ 8
      · clear hn
        go_enter Tryd.func11, Tryd.ntmps11
        go_wp2
        go_loop [4, 22] (fun s i => ∃ k : Nat, k ≤ n ∧ i = .int .i64 k ∧ (∀ j, j < k → inB (zs[j]?.getD 0) 0 (fullI m) = true)) (fun _ i => n - (intOf i).toNat)
        case atStart => exact ⟨0, Nat.zero_le _, rfl, fun j hj => by omega⟩
        case round =>
          obtain ⟨k, hk, rfl, he⟩ := hrel
          by_cases hlt : k < n
          · obtain ⟨b1, o1, rfl, hb1, hc1⟩ := ha.at_ (k := k) (by rw [← HN.out]; exact hlt)
            have c1 := (HB.out.cell (p := ⟨b1, o1 + k, none⟩) hb1).trans hc1
            have HE := Lib.hid he
            clear he hc1
            cases hs : inB (zs[k]?.getD 0) 0 (fullI m)
            · have HS := Lib.hid hs
              have HF : Hid (famIn m zs = false) := Lib.hid (famIn_z (by rw [← HN.out]; exact hlt) hs)
              clear hs
              go_wp2_with (go_at_call 42; refine (setIn_any _ _ _ h1 h2).mono ?_; rintro e w' ⟨rfl, rfl⟩; rw [HS.out])
              go_ret
              exact ⟨by rw [HF.out]; rfl, HB.out⟩
            · have HS := Lib.hid hs
              clear hs
              go_wp2_with (go_at_call 42; refine (setIn_any _ _ _ h1 h2).mono ?_; rintro e w' ⟨rfl, rfl⟩; rw [HS.out])
              go_round
              case rel => exact ⟨k + 1, by omega, by go_num, fun j hj => by
                rcases Nat.lt_succ_iff_lt_or_eq.1 hj with h | rfl
                · exact HE.out j h
                · exact HS.out⟩
              case measure => simp [intOf]; omega
          · obtain rfl : k = n := by omega
            have HF : Hid (famIn m zs = true) := Lib.hid (famIn_y (inB_true h1 h2) (by rw [← HN.out]; exact h3) (by rw [← HN.out]; exact he))
            clear he
            go_wp2
            go_ret
            exact ⟨by rw [HF.out]; rfl, HB.out⟩
      · have HF : Hid (famIn m zs = false) := Lib.hid (famIn_l (by omega))
        clear hn
        go_enter Tryd.func11, Tryd.ntmps11
        go_wp2
        go_ret
        exact ⟨by rw [HF.out]; rfl, HB.out⟩
    · have HF : Hid (famIn m zs = false) := Lib.hid (famIn_m (inB_false (.inr (by omega))))
      clear hn
      go_enter Tryd.func11, Tryd.ntmps11
      go_wp2
      go_ret
      exact ⟨by rw [HF.out]; rfl, HB.out⟩
  · have HF : Hid (famIn m zs = false) := Lib.hid (famIn_m (inB_false (.inl (by omega))))
    clear hn
    go_enter Tryd.func11, Tryd.ntmps11
    go_wp2
    go_ret
    exact ⟨by rw [HF.out]; rfl, HB.out⟩

end Go.Proofs.YtgpgocijacgkhaaDoor

/- It is proved how boxed families keep what they hold while the laws go on; conditions: those of each statement. -/
namespace Go.Proofs.YtgpgocijacgkhaaDoor
open Go.RowKit

/-- What a function of a family and a bool returns: both, in new memory; nothing that lay has turned. -/
def RetFB (w : World) (m : Int) (zs : List Int) (ok : Bool) (e : Ending) (w' : World) : Prop :=
  ∃ a cap, e = .returned (.tuple #[.agg #[.int .i64 m, .slice a zs.length cap], .bool ok]) ∧ OwnI w' w.heap.size (.slice a zs.length cap) zs ∧ Below w.heap.size w w'

end Go.Proofs.YtgpgocijacgkhaaDoor
