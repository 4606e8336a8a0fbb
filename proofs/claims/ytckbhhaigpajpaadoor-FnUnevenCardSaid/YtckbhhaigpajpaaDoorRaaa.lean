/- It is proved what szIntS, szFamily and toIntS return; conditions: the bounds in each statement. -/
import Derived.Test.YtckbhhaigpajpaaDoorRows
import Derived.WalkKit
import Derived.WalkSpells
import Derived.ProofKit
import Derived.OpenShut
import Derived.ShutString
import Derived.ChangeOld
import Derived.Below
import Derived.Deep.RegionHeld3
import Derived.Deep.QuietTactic
import Derived.BigQuiet
import Derived.Lib.Hide
import Derived.Lib.SmallJoins
import Derived.Outline
import Derived.Laws.MakeOwn
import Derived.Laws.OwnMore
import Derived.IntWalk
import Derived.RangeFuncNested
import Derived.RangeFuncBound
import Derived.RangeFuncCalls
import Derived.RangeFuncLeaves
import Derived.RangeFuncBox
import Derived.RangeFuncWrites
namespace Go.Proofs.YtckbhhaigpajpaaDoor
open Go.RowKit

/-- What a slice value's address holds: the ints zs, in a block below B (where there is an int). -/
def Ints (w : World) (B : Nat) (a : Option Addr) (zs : List Int) : Prop :=
  zs = [] ∨ ∃ b off, a = some ⟨b, off, none⟩ ∧ b < B ∧ ∀ j, j < zs.length → w.cell? ⟨b, off + j, none⟩ = some (.int .i64 (zs[j]?.getD 0))

theorem Ints.below {w w' : World} {B : Nat} {a : Option Addr} {zs : List Int} (h : Ints w B a zs) (hb : Below B w w') : Ints w' B a zs := by
  rcases h with h | ⟨b, off, e, hB, hc⟩
  · exact .inl h
  · exact .inr ⟨b, off, e, hB, fun j hj => (hb.cell (p := ⟨b, off + j, none⟩) hB).trans (hc j hj)⟩

theorem Ints.mono {w : World} {B B' : Nat} {a : Option Addr} {zs : List Int} (h : Ints w B a zs) (hB : B ≤ B') : Ints w B' a zs := by
  rcases h with h | ⟨b, off, e, hb, hc⟩
  · exact .inl h
  · exact .inr ⟨b, off, e, by omega, hc⟩

theorem szIntS_any (a : Option Addr) (n cap : Nat) (k : Int) (w : World) (hn : n ≤ 9223372036854775807) (hk0 : 0 ≤ k) (hk : k ≤ 1048576) :
    Calls Tryd.prog 66 #[.slice a n cap, .int .i64 k] w fun e w' => e = .returned (.int .i64 (if k < n then -1 else k - n)) ∧ w = w' := by
  by_cases h : k < (n : Int)
  · go_enter Tryd.func66, Tryd.ntmps66
    go_wp2
    go_ret
    exact ⟨by simp, rfl⟩
  · go_enter Tryd.func66, Tryd.ntmps66
    go_wp2
    go_ret
    exact ⟨by simp, rfl⟩

theorem szFamily_any (a : Option Addr) (n cap : Nat) (m k : Int) (w : World) (hn : n ≤ 9223372036854775807) (hk0 : 0 ≤ k) (hk : k ≤ 1048576) :
    Calls Tryd.prog 28 #[.agg #[.int .i64 m, .slice a n cap], .int .i64 k] w fun e w' => e = .returned (.int .i64 (if k < n then -1 else k - n)) ∧ Below w.heap.size w w' := by
  by_cases h : k < (n : Int)
  · go_enter Tryd.func28, Tryd.ntmps28
    go_wp2_with (go_at_call 66; refine (szIntS_any _ _ _ _ _ hn hk0 hk).mono ?_; rintro e w' ⟨rfl, rfl⟩; rw [if_pos h])
    go_ret
    exact ⟨by simp, (Below.refl _ _).alloc (Nat.le_refl _) _⟩
  · go_enter Tryd.func28, Tryd.ntmps28
    go_wp2_with (go_at_call 66; refine (szIntS_any _ _ _ _ _ hn hk0 hk).mono ?_; rintro e w' ⟨rfl, rfl⟩; rw [if_neg h])
    go_ret
    exact ⟨by simp, (Below.refl _ _).alloc (Nat.le_refl _) _⟩

/-- A slice value of the call's own: it owns the ints zs, in a block from B on (or it is nil and zs is empty). -/
def OwnI (w : World) (B : Nat) (v : Value) (zs : List Int) : Prop := w.ownsRow B 3 1 v zs.length (zs.map (Value.int .i64))

theorem Tryd.info3 : (Tryd.prog.info? 3).map (fun i => (i.zero, i.size, i.bytes)) = some (some (.int .i64 0), 1, 8) := by kernel_rfl
def RetInts (w : World) (zs : List Int) (e : Ending) (w' : World) : Prop :=
  ∃ a cap, e = .returned (.slice a zs.length cap) ∧ OwnI w' w.heap.size (.slice a zs.length cap) zs ∧ Below w.heap.size w w'

theorem copied_start (zs : List Int) : (madeCells (Value.int .i64 0).cells (zs.length * 1)).toList = (List.replicate zs.length (0 : Int)).map (Value.int .i64) := by
  rw [show (Value.int .i64 0).cells = #[Value.int .i64 0] from rfl, toList_madeCells_one]; simp

theorem copied_step (zs : List Int) (k : Nat) (h : k < zs.length) :
    ((zs.take k ++ List.replicate (zs.length - k) 0).map (Value.int .i64)).set k (.int .i64 (zs[k]?.getD 0)) = (zs.take (k + 1) ++ List.replicate (zs.length - (k + 1)) 0).map (Value.int .i64) := by
  rw [← List.map_set]
  congr 1
  have hl : (zs.take k).length = k := by rw [List.length_take]; omega
  rw [List.set_append_right _ _ (by omega), hl, Nat.sub_self]
  rw [show zs.length - k = (zs.length - (k + 1)) + 1 from by omega, List.replicate_succ, List.set_cons_zero]
  rw [List.take_succ_eq_append_getElem h, List.append_assoc]
  simp [h]

theorem copied_at (zs : List Int) (n k : Nat) (hn : n ≤ zs.length) (h : k < n) :
    ((zs.take k ++ List.replicate (n - k) 0).map (Value.int .i64))[k]? = some (.int .i64 0) := by
  have hl : (zs.take k).length = k := by rw [List.length_take]; omega
  rw [List.getElem?_map, List.getElem?_append_right (by omega), hl, Nat.sub_self, List.getElem?_replicate, if_pos (by omega)]; rfl

set_option maxRecDepth 100000 in
set_option maxHeartbeats 400000 in
theorem toIntS_any (a : Option Addr) (cap : Nat) (zs : List Int) (w : World) (hz : Ints w w.heap.size a zs) (hn : zs.length ≤ 1048576) :
    Calls Tryd.prog 67 #[.slice a zs.length cap] w (RetInts w zs) := by
  obtain ⟨i0, hi0, hz0, hz1, hz2⟩ := info_parts Tryd.info3
  obtain ⟨n, hn'⟩ : ∃ n, n = zs.length := ⟨_, rfl⟩
  have HN : Hid (n = zs.length) := Lib.hid hn'
  have hnz : n ≤ zs.length := by omega
  have hzn : zs.length ≤ n := by omega
  rw [← hn']
  rw [← hn'] at hn
  clear hn'
  go_enter Tryd.func67, Tryd.ntmps67
  go_wp2_with (refine wpList_make_full _ rfl _ _ 23 rfl w.heap.size 3 i0 _ 1 Tryd.underlying23 hi0 hz0 hz1 .i64 .i64 _ _ n rfl rfl rfl rfl (by rw [hz2]; omega) (by simp only [maxLen]; omega) (Nat.le_refl _) ?_; intro w1 hown hg)
  have HO : Hid (w1.ownsRow w.heap.size 3 1 (.slice (some ⟨w.heap.size, 0, none⟩) n n) n ((zs.take 0 ++ List.replicate (n - 0) 0).map (Value.int .i64))) := by
    rw [HN.out, copied_start] at hown
    rw [HN.out]
    exact (by simpa using hown : w1.ownsRow w.heap.size 3 1 (.slice (some ⟨w.heap.size, 0, none⟩) zs.length zs.length) zs.length ((zs.take 0 ++ List.replicate (zs.length - 0) 0).map (Value.int .i64)))
  clear hown
  have hB1 : Below w.heap.size w w1 := (Below.refl _ _).grown hg (Nat.le_refl _) (by simp)
  clear hg
  go_loopw [4] (fun i wr => ∃ k : Nat, k ≤ n ∧ i = .int .i64 k ∧ wr.ownsRow w.heap.size 3 1 (.slice (some ⟨w.heap.size, 0, none⟩) n n) n ((zs.take k ++ List.replicate (n - k) 0).map (Value.int .i64)) ∧ Below w.heap.size w wr) (fun i _ => n - (intOf i).toNat)
  case atStart => exact ⟨0, Nat.zero_le _, rfl, HO.out, hB1⟩
  case round =>
    obtain ⟨k, hk, rfl, ho, hb⟩ := hrel
    by_cases hlt : k < n
    · obtain ⟨b, off, rfl, hbb, hc⟩ : ∃ b off, a = some ⟨b, off, none⟩ ∧ b < w.heap.size ∧ ∀ j, j < zs.length → w.cell? ⟨b, off + j, none⟩ = some (.int .i64 (zs[j]?.getD 0)) := by
        rcases hz with h | h
        · subst h; simp at hnz; omega
        · exact h
      have hck : wr.cell? ⟨b, off + k, none⟩ = some (.int .i64 (zs[k]?.getD 0)) := (hb.cell (p := ⟨b, off + k, none⟩) hbb).trans (hc k (by omega))
      have hcs : wr.cell? ⟨w.heap.size, k, none⟩ = some (.int .i64 0) := by
        rw [ho.cellAt k (by omega)]; exact copied_at zs n k (by omega) hlt
      have hfz := ho.frozenAt k
      have HS := Lib.hid (ho.stored k (.int .i64 (zs[k]?.getD 0)))
      have HB := Lib.hid hb
      clear hc ho hb
      go_wp2
      go_roundw
      case rel => exact ⟨k + 1, by omega, by go_num, by have h1 := HS.out.1; rw [HN.out, copied_step zs k (by omega)] at h1; rw [HN.out]; exact h1, HB.out.setCell (p := ⟨w.heap.size, k, none⟩) (Nat.le_refl _) _⟩
      case measure => simp [intOf]; omega
    · obtain rfl : k = n := by omega
      have HD : Hid (RetInts w zs (.returned (.slice (some ⟨w.heap.size, 0, none⟩) k k)) wr) := by
        refine ⟨_, _, by rw [HN.out], ?_, hb⟩
        rw [HN.out, Nat.sub_self, List.replicate_zero, List.append_nil, List.take_length] at ho
        exact ho
      clear ho hb
      go_wp2
      go_ret
      exact HD.out

end Go.Proofs.YtckbhhaigpajpaaDoor

/- It is proved what eqIntS returns; conditions: the bounds in each statement. -/
namespace Go.Proofs.YtckbhhaigpajpaaDoor
open Go.RowKit

theorem Ints.at_ {w : World} {B : Nat} {a : Option Addr} {zs : List Int} (h : Ints w B a zs) {k : Nat} (hk : k < zs.length) :
    ∃ b off, a = some ⟨b, off, none⟩ ∧ b < B ∧ w.cell? ⟨b, off + k, none⟩ = some (.int .i64 (zs[k]?.getD 0)) := by
  rcases h with h | ⟨b, off, e, hb, hc⟩
  · subst h; simp at hk
  · exact ⟨b, off, e, hb, hc k hk⟩

theorem below_drewN {B : Nat} {a w : World} (h : Below B a w) (n : Nat) : Below B a (w.drewN n) := ⟨h.os, h.tape, h.output, h.size, h.block⟩
theorem eqs_false {xs ys : List Int} {k : Nat} (_hx : k < xs.length) (hy : k < ys.length) (h : xs[k]?.getD 0 ≠ ys[k]?.getD 0) : decide (xs = ys) = false := by
  simp only [decide_eq_false_iff_not]; rintro rfl; exact h rfl

theorem eqs_true {xs ys : List Int} (hl : xs.length = ys.length) (h : ∀ j, j < xs.length → xs[j]?.getD 0 = ys[j]?.getD 0) : decide (xs = ys) = true := by
  simp only [decide_eq_true_eq]
  apply List.ext_getElem hl
  intro i h1 h2
  have := h i h1
  simpa [h1, h2] using this

/-- Two lists are the same: a plain name, so that the walk does not take it apart. -/
def sameB (xs ys : List Int) : Bool := decide (xs = ys)

set_option maxRecDepth 100000 in
set_option maxHeartbeats 400000 in
theorem eqIntS_any (a b : Option Addr) (ca cb : Nat) (xs ys : List Int) (w : World) (ha : Ints w w.heap.size a xs) (hb : Ints w w.heap.size b ys) (hx : xs.length ≤ 1048576) (hy : ys.length ≤ 1048576) :
    Calls Tryd.prog 68 #[.slice a xs.length ca, .slice b ys.length cb] w fun e w' => e = .returned (.bool (sameB xs ys)) ∧ Below w.heap.size w w' := by
  by_cases hl : xs.length = ys.length
  · obtain ⟨n, hn⟩ : ∃ n, n = xs.length := ⟨_, rfl⟩
    have HN : Hid (n = xs.length) := Lib.hid hn
    have HM : Hid (n = ys.length) := Lib.hid (hn.trans hl)
    rw [← hl, ← hn]
    rw [← hn] at hx
    clear hl hn hy
    go_enter Tryd.func68, Tryd.ntmps68
    go_wp2
    go_loopw [5] (fun i wr => ∃ k : Nat, k ≤ n ∧ i = .int .i64 k ∧ (∀ j, j < k → xs[j]?.getD 0 = ys[j]?.getD 0) ∧ Below w.heap.size w wr) (fun i _ => n - (intOf i).toNat)
    case atStart => exact ⟨0, Nat.zero_le _, rfl, fun j hj => by omega, Below.refl _ _⟩
    case round =>
      obtain ⟨k, hk, rfl, he, hB⟩ := hrel
      by_cases hlt : k < n
      · obtain ⟨b1, o1, rfl, hb1, hc1⟩ := ha.at_ (k := k) (by rw [← HN.out]; exact hlt)
        obtain ⟨b2, o2, rfl, hb2, hc2⟩ := hb.at_ (k := k) (by rw [← HM.out]; exact hlt)
        have hk0 : (0 : Int) ≤ (k : Int) := by omega
        have hk1 : (k : Int) < (n : Int) := by omega
        have c1 := (hB.cell (p := ⟨b1, o1 + k, none⟩) hb1).trans hc1
        have c2 := (hB.cell (p := ⟨b2, o2 + k, none⟩) hb2).trans hc2
        have HB := Lib.hid hB
        have HE := Lib.hid he
        clear hc1 hc2 hB he
        by_cases hq : xs[k]?.getD 0 = ys[k]?.getD 0
        · have hbn : (xs[k]?.getD 0 != ys[k]?.getD 0) = false := by rw [hq]; simp
          have HQ := Lib.hid hq
          clear hq
          go_wp2
          go_quiet (fail)
          go_wp2
          go_roundw
          case rel => exact ⟨k + 1, by omega, by go_num, fun j hj => by
            rcases Nat.lt_succ_iff_lt_or_eq.1 hj with h | rfl
            · exact HE.out j h
            · exact HQ.out, below_drewN HB.out _⟩
          case measure => simp [intOf]; omega
        · have hbn : (xs[k]?.getD 0 != ys[k]?.getD 0) = true := by rw [bne_iff_ne]; exact hq
          have HQ : Hid (sameB xs ys = false) := Lib.hid (by unfold sameB; exact eqs_false (by rw [← HN.out]; exact hlt) (by rw [← HM.out]; exact hlt) hq)
          clear hq
          go_wp2
          go_quiet (fail)
          go_wp2
          go_ret
          exact ⟨by rw [HQ.out]; rfl, below_drewN HB.out _⟩
      · obtain rfl : k = n := by omega
        have HQ : Hid (sameB xs ys = true) := Lib.hid (by unfold sameB; exact eqs_true (by rw [← HN.out, ← HM.out]) (by rw [← HN.out]; exact he))
        have HB := Lib.hid hB
        clear he hB
        go_wp2
        go_ret
        exact ⟨by rw [HQ.out]; rfl, HB.out⟩
  · have hd : sameB xs ys = false := by unfold sameB; simp only [decide_eq_false_iff_not]; rintro rfl; exact hl rfl
    have hne : ((xs.length : Int) == (ys.length : Int)) = false := by simp; omega
    have hne' : ((xs.length : Int) != (ys.length : Int)) = true := by simp; omega
    rw [hd]
    go_enter Tryd.func68, Tryd.ntmps68
    go_wp2
    go_ret
    exact ⟨rfl, Below.refl _ _⟩

end Go.Proofs.YtckbhhaigpajpaaDoor

/- It is proved how a Family among a law's arguments reads as a number and a list of ints; conditions: none but that the argument can be read. -/
namespace Go.Proofs.YtckbhhaigpajpaaDoor
open Go.ChangeShapes Go.WideShapes Go.ChangeAt Go.RowKit Go.Joins
open Go.ChangeMaps (open_string shut_string)

theorem Tryd.own : ownKnob Tryd.prog.godebug = none := by kernel_rfl
theorem Tryd.laidOut : laidOutB Tryd.prog = true := by kernel_rfl
theorem Tryd.cells33 : Tryd.prog.cellsOf 33 = 2 := by kernel_rfl
theorem Tryd.cells3 : Tryd.prog.cellsOf 3 = 1 := by kernel_rfl
theorem Tryd.cells23 : Tryd.prog.cellsOf 23 = 1 := by kernel_rfl
theorem ints_of_row {W : World} {x : Addr} {l c : Nat} {zs : List Int} (hl : l ≤ c) (hz : zs.length = c)
    (hcell : ∀ i, i < zs.length → W.cell? (x.add i) = some (.int .i64 (zs.getD i 0))) : Ints W W.heap.size (some x) (zs.take l) := by
  by_cases h0 : l = 0
  · subst h0; exact .inl (by simp)
  · obtain ⟨b, off, spot⟩ := x
    have hc := hcell 0 (by omega)
    have hspot : spot = none := by simpa [Addr.add] using World.cell?_spot hc
    subst hspot
    refine .inr ⟨b, off, rfl, by simpa [Addr.add] using World.block_lt_of_cell? W _ hc, fun j hj => ?_⟩
    have hj' : j < l := by simp at hj; omega
    have := hcell j (by omega)
    rw [show (⟨b, off, none⟩ : Addr).add j = ⟨b, off + j, none⟩ from by unfold Addr.add; split <;> simp_all] at this
    rw [this]
    simp [List.getD, hj']

set_option maxRecDepth 100000 in
theorem open_family {H : Type} {enc : TypeId × Value → H} {W : World} {base : Nat} {v : Value} {d : DataW H} {p : List MemPlace}
    (hv : Value.okWide Tryd.prog W .any base 33 v) (h : DataW.Trod enc Tryd.prog W 0 (fun _ => true) true 33 v d p) :
    ∃ m a cap, ∃ zs : List Int, v = .agg #[.int .i64 m, .slice a zs.length cap] ∧ zs.length ≤ maxLen ∧ Ints W W.heap.size a zs := by
  obtain ⟨c0, c1, y0, y1, n, rfl, rfl, rfl, hy0, hy1⟩ := open_agg2 Tryd.underlying33 (by kernel_rfl) Tryd.cells33 hv h
  obtain ⟨m, e0, rfl, wm⟩ := DataW.trod_int Tryd.underlying3 hy0
  simp at e0
  subst e0
  rcases open_ints Tryd.underlying23 Tryd.underlying3 Tryd.cells3 hy1 with ⟨hcs, _⟩ | ⟨x, l, c, zs, hcs, _, hl, hm, hz, hx, hcell, hwz⟩
  · simp at hcs
    subst hcs
    exact ⟨m, none, 0, [], rfl, by simp [maxLen], .inl rfl⟩
  · simp at hcs
    subst hcs
    have hlen : (zs.take l).length = l := by rw [List.length_take]; simp at hz; omega
    refine ⟨m, some x, c, zs.take l, by rw [hlen], by rw [hlen]; omega, ints_of_row hl (by simpa using hz) hcell⟩

end Go.Proofs.YtckbhhaigpajpaaDoor

/- It is proved what a loop over a function does where the function keeps its state in cells of its own and the body writes one block that lay ahead of the loop; conditions: those of each statement. -/
namespace Go
open Go.RowKit

/-- Whatever lies in a block that X does not name lies as it lay. -/
structure But (X : Nat → Prop) (W W' : World) : Prop where
  os : W'.os = W.os
  tape : W'.tape = W.tape
  output : W'.output = W.output
  size : W.heap.size ≤ W'.heap.size
  same : ∀ k, k < W.heap.size → ¬ X k → W'.heap[k]? = W.heap[k]?

theorem But.refl (X : Nat → Prop) (W : World) : But X W W := ⟨rfl, rfl, rfl, Nat.le_refl _, fun _ _ _ => rfl⟩
theorem But.trans {X : Nat → Prop} {A B C : World} (h : But X A B) (k : But X B C) : But X A C :=
  ⟨k.os.trans h.os, k.tape.trans h.tape, k.output.trans h.output, Nat.le_trans h.size k.size, fun i hi hX => (k.same i (Nat.lt_of_lt_of_le hi h.size) hX).trans (h.same i hi hX)⟩

theorem But.mono {X Y : Nat → Prop} {A B : World} (h : But X A B) (hXY : ∀ k, k < A.heap.size → X k → Y k) : But Y A B := ⟨h.os, h.tape, h.output, h.size, fun i hi hY => h.same i hi (fun e => hY (hXY _ hi e))⟩
theorem But.of_grownBy {X : Nat → Prop} {W W' : World} {row : Option Nat} (hg : W.grownBy W' row) (hr : ∀ r, row = some r → r < W.heap.size → X r) : But X W W' :=
  ⟨hg.os, hg.tape, hg.output, hg.size, fun k hk hX => hg.block k hk (fun e => hX (hr k e.symm hk))⟩

theorem But.putObj {X : Nat → Prop} (W : World) (l : Nat) (o : Obj) (hl : X l) : But X W (W.putObj l o) := But.of_grownBy (grownBy_putObj' W l o) (fun r e _ => by cases e; exact hl)
theorem But.alloc {X : Nat → Prop} (W : World) (o : Obj) : But X W (W.alloc o) := But.of_grownBy (World.grownBy_alloc W o none) (by simp)
theorem But.setCell {X : Nat → Prop} (W : World) (b i : Nat) (v : Value) (hb : b < W.heap.size → X b) : But X W (W.setCell ⟨b, i, none⟩ v) :=
  ⟨rfl, rfl, rfl, by simp, fun k hk hX => Below.heap_setCell W ⟨b, i, none⟩ v k (fun e => hX (by subst e; exact hb hk))⟩

theorem But.drew {X : Nat → Prop} (W : World) : But X W W.drew := ⟨rfl, rfl, rfl, Nat.le_refl _, fun _ _ _ => rfl⟩
theorem But.keep {X : Nat → Prop} {W W' : World} {k : Nat} {o : Obj} (h : But X W W') (hX : ¬ X k) (hk : W.heap[k]? = some o) : W'.heap[k]? = some o := (h.same k (Array.getElem?_eq_some_iff.1 hk).1 hX).trans hk
theorem But.below {X : Nat → Prop} {W W' : World} {B : Nat} (h : But X W W') (hB : B ≤ W.heap.size) (hX : ∀ k, X k → B ≤ k) : Below B W W' :=
  ⟨h.os, h.tape, h.output, h.size, fun k hk => h.same k (Nat.lt_of_lt_of_le hk hB) (fun e => by have := hX k e; omega)⟩

theorem But.from {X : Nat → Prop} {W W' : World} {B : Nat} (h : But X W W') (hX : ∀ k o, B ≤ k → W.heap[k]? = some o → X k → o.isCells = true) : KeepsFrom B W W' :=
  ⟨h.size, fun k o hB hk ho => h.keep (fun e => by rw [hX k o hB hk e] at ho; cases ho) hk⟩

theorem But.of_below {X : Nat → Prop} {W W' : World} (h : Below W.heap.size W W') : But X W W' := ⟨h.os, h.tape, h.output, h.size, fun k hk _ => h.block k hk⟩
/-- What abides whatever is done to blocks from B on. -/
def OwnAll {β : Type} (B : Nat) (J : β → World → Prop) : Prop := ∀ s A C row, J s A → A.grownBy C row → (∀ r, row = some r → B ≤ r) → J s C

end Go
