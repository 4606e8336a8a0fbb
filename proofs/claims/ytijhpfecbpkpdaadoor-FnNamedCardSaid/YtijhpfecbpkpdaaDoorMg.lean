import Derived.Test.YtijhpfecbpkpdaaDoorRows
import Derived.WalkKit
import Derived.WalkSpells
import Derived.ProofKit
import Derived.OpenShut
import Derived.ShutString
import Derived.ChangeOld
import Derived.Below
import Derived.Deep.RegionHeld3
import Derived.Deep.QuietTactic
import Derived.BigQuiet
import Derived.Lib.Hide
import Derived.Lib.SmallJoins
import Derived.Outline
import Derived.Laws.MakeOwn
import Derived.Laws.OwnMore
import Derived.IntWalk
import Derived.Deep.AppendLies
import Derived.RangeFuncNested
import Derived.RangeFuncBound
import Derived.RangeFuncCalls
import Derived.RangeFuncLeaves
import Derived.RangeFuncBox
import Derived.Shelf.Abstract
import Derived.Shelf.RegionOpen
import Derived.OwnWalkIn
import Derived.TacticsInMore
import Derived.LoopNIn
import Derived.LoopIn
import Derived.Maps.AppendAt
import Derived.OwnWalk
/- It is proved what szIntS, szFamily and toIntS return; conditions: the bounds in each statement. -/
namespace Go.Proofs.YtijhpfecbpkpdaaDoor
open Go.RowKit

/-- What a slice value's address holds: the ints zs, in a block below B (where there is an int). -/
def Ints (w : World) (B : Nat) (a : Option Addr) (zs : List Int) : Prop :=
  zs = [] ∨ ∃ b off, a = some ⟨b, off, none⟩ ∧ b < B ∧ ∀ j, j < zs.length → w.cell? ⟨b, off + j, none⟩ = some (.int .i64 (zs[j]?.getD 0))

theorem Ints.below {w w' : World} {B : Nat} {a : Option Addr} {zs : List Int} (h : Ints w B a zs) (hb : Below B w w') : Ints w' B a zs := by
  rcases h with h | ⟨b, off, e, hB, hc⟩
  · exact .inl h
  · exact .inr ⟨b, off, e, hB, fun j hj => (hb.cell (p := ⟨b, off + j, none⟩) hB).trans (hc j hj)⟩

theorem Ints.mono {w : World} {B B' : Nat} {a : Option Addr} {zs : List Int} (h : Ints w B a zs) (hB : B ≤ B') : Ints w B' a zs := by
  rcases h with h | ⟨b, off, e, hb, hc⟩
  · exact .inl h
  · exact .inr ⟨b, off, e, by omega, hc⟩

theorem szIntS_any (a : Option Addr) (n cap : Nat) (k : Int) (w : World) (hn : n ≤ 9223372036854775807) (hk0 : 0 ≤ k) (hk : k ≤ 1048576) :
    Calls Tryd.prog 80 #[.slice a n cap, .int .i64 k] w fun e w' => e = .returned (.int .i64 (if k < n then -1 else k - n)) ∧ w = w' := by
  by_cases h : k < (n : Int)
  · go_enter Tryd.func80, Tryd.ntmps80
    go_wp2
    go_ret
    exact ⟨by simp [h], rfl⟩
  · go_enter Tryd.func80, Tryd.ntmps80
    go_wp2
    go_ret
    exact ⟨by simp [h], rfl⟩

theorem szFamily_any (a : Option Addr) (n cap : Nat) (m k : Int) (w : World) (hn : n ≤ 9223372036854775807) (hk0 : 0 ≤ k) (hk : k ≤ 1048576) :
    Calls Tryd.prog 37 #[.agg #[.int .i64 m, .slice a n cap], .int .i64 k] w fun e w' => e = .returned (.int .i64 (if k < n then -1 else k - n)) ∧ Below w.heap.size w w' := by
  by_cases h : k < (n : Int)
  · go_enter Tryd.func37, Tryd.ntmps37
    go_wp2_with (go_at_call 80; refine (szIntS_any _ _ _ _ _ hn hk0 hk).mono ?_; rintro e w' ⟨rfl, rfl⟩; rw [if_pos h])
    go_ret
    exact ⟨by simp [h], (Below.refl _ _).alloc (Nat.le_refl _) _⟩
  · go_enter Tryd.func37, Tryd.ntmps37
    go_wp2_with (go_at_call 80; refine (szIntS_any _ _ _ _ _ hn hk0 hk).mono ?_; rintro e w' ⟨rfl, rfl⟩; rw [if_neg h])
    go_ret
    exact ⟨by simp [h], (Below.refl _ _).alloc (Nat.le_refl _) _⟩

/-- A slice value of the call's own: it owns the ints zs, in a block from B on (or it is nil and zs is empty). -/
def OwnI (w : World) (B : Nat) (v : Value) (zs : List Int) : Prop := w.ownsRow B 3 1 v zs.length (zs.map (Value.int .i64))

theorem Tryd.info3 : (Tryd.prog.info? 3).map (fun i => (i.zero, i.size, i.bytes)) = some (some (.int .i64 0), 1, 8) := by kernel_rfl
def RetInts (w : World) (zs : List Int) (e : Ending) (w' : World) : Prop :=
  ∃ a cap, e = .returned (.slice a zs.length cap) ∧ OwnI w' w.heap.size (.slice a zs.length cap) zs ∧ Below w.heap.size w w'

theorem copied_start (zs : List Int) : (madeCells (Value.int .i64 0).cells (zs.length * 1)).toList = (List.replicate zs.length (0 : Int)).map (Value.int .i64) := by
  rw [show (Value.int .i64 0).cells = #[Value.int .i64 0] from rfl, toList_madeCells_one]; simp

theorem copied_step (zs : List Int) (k : Nat) (h : k < zs.length) :
    ((zs.take k ++ List.replicate (zs.length - k) 0).map (Value.int .i64)).set k (.int .i64 (zs[k]?.getD 0)) = (zs.take (k + 1) ++ List.replicate (zs.length - (k + 1)) 0).map (Value.int .i64) := by
  rw [← List.map_set]
  congr 1
  have hl : (zs.take k).length = k := by rw [List.length_take]; omega
  rw [List.set_append_right _ _ (by omega), hl, Nat.sub_self]
  rw [show zs.length - k = (zs.length - (k + 1)) + 1 from by omega, List.replicate_succ, List.set_cons_zero]
  rw [List.take_succ_eq_append_getElem h, List.append_assoc]
  simp [h]

theorem copied_at (zs : List Int) (n k : Nat) (hn : n ≤ zs.length) (h : k < n) :
    ((zs.take k ++ List.replicate (n - k) 0).map (Value.int .i64))[k]? = some (.int .i64 0) := by
  have hl : (zs.take k).length = k := by rw [List.length_take]; omega
  rw [List.getElem?_map, List.getElem?_append_right (by omega), hl, Nat.sub_self, List.getElem?_replicate, if_pos (by omega)]; rfl

set_option maxRecDepth 100000 in
set_option maxHeartbeats 400000 in
theorem toIntS_any (a : Option Addr) (cap : Nat) (zs : List Int) (w : World) (hz : Ints w w.heap.size a zs) (hn : zs.length ≤ 1048576) :
    Calls Tryd.prog 83 #[.slice a zs.length cap] w (RetInts w zs) := by
  obtain ⟨i0, hi0, hz0, hz1, hz2⟩ := info_parts Tryd.info3
  obtain ⟨n, hn'⟩ : ∃ n, n = zs.length := ⟨_, rfl⟩
  have HN : Hid (n = zs.length) := Lib.hid hn'
  have hnz : n ≤ zs.length := by omega
  have hzn : zs.length ≤ n := by omega
  rw [← hn']
  rw [← hn'] at hn
  clear hn'
  go_enter Tryd.func83, Tryd.ntmps83
  go_wp2_with (refine wpList_make_full _ rfl _ _ 23 rfl w.heap.size 3 i0 _ 1 Tryd.underlying23 hi0 hz0 hz1 .i64 .i64 _ _ n rfl rfl rfl rfl (by rw [hz2]; omega) (by simp only [maxLen]; omega) (Nat.le_refl _) ?_; intro w1 hown hg)
  have HO : Hid (w1.ownsRow w.heap.size 3 1 (.slice (some ⟨w.heap.size, 0, none⟩) n n) n ((zs.take 0 ++ List.replicate (n - 0) 0).map (Value.int .i64))) := by
    rw [HN.out, copied_start] at hown
    rw [HN.out]
    exact (by simpa using hown : w1.ownsRow w.heap.size 3 1 (.slice (some ⟨w.heap.size, 0, none⟩) zs.length zs.length) zs.length ((zs.take 0 ++ List.replicate (zs.length - 0) 0).map (Value.int .i64)))
  clear hown
  have hB1 : Below w.heap.size w w1 := (Below.refl _ _).grown hg (Nat.le_refl _) (by simp)
  clear hg
  go_loopw [4] (fun i wr => ∃ k : Nat, k ≤ n ∧ i = .int .i64 k ∧ wr.ownsRow w.heap.size 3 1 (.slice (some ⟨w.heap.size, 0, none⟩) n n) n ((zs.take k ++ List.replicate (n - k) 0).map (Value.int .i64)) ∧ Below w.heap.size w wr) (fun i _ => n - (intOf i).toNat)
  case atStart => exact ⟨0, Nat.zero_le _, rfl, HO.out, hB1⟩
  case round =>
    obtain ⟨k, hk, rfl, ho, hb⟩ := hrel
    by_cases hlt : k < n
    · obtain ⟨b, off, rfl, hbb, hc⟩ : ∃ b off, a = some ⟨b, off, none⟩ ∧ b < w.heap.size ∧ ∀ j, j < zs.length → w.cell? ⟨b, off + j, none⟩ = some (.int .i64 (zs[j]?.getD 0)) := by
        rcases hz with h | h
        · subst h; simp at hnz; omega
        · exact h
      have hck : wr.cell? ⟨b, off + k, none⟩ = some (.int .i64 (zs[k]?.getD 0)) := (hb.cell (p := ⟨b, off + k, none⟩) hbb).trans (hc k (by omega))
      have hcs : wr.cell? ⟨w.heap.size, k, none⟩ = some (.int .i64 0) := by
        rw [ho.cellAt k (by omega)]; exact copied_at zs n k (by omega) hlt
      have hfz := ho.frozenAt k
      have HS := Lib.hid (ho.stored k (.int .i64 (zs[k]?.getD 0)))
      have HB := Lib.hid hb
      clear hc ho hb
      go_wp2
      go_roundw
      case rel => exact ⟨k + 1, by omega, by go_num, by have h1 := HS.out.1; rw [HN.out, copied_step zs k (by omega)] at h1; rw [HN.out]; exact h1, HB.out.setCell (p := ⟨w.heap.size, k, none⟩) (Nat.le_refl _) _⟩
      case measure => simp [intOf]; omega
    · obtain rfl : k = n := by omega
      have HD : Hid (RetInts w zs (.returned (.slice (some ⟨w.heap.size, 0, none⟩) k k)) wr) := by
        refine ⟨_, _, by rw [HN.out], ?_, hb⟩
        rw [HN.out, Nat.sub_self, List.replicate_zero, List.append_nil, List.take_length] at ho
        exact ho
      clear ho hb
      go_wp2
      go_ret
      exact HD.out

end Go.Proofs.YtijhpfecbpkpdaaDoor

/- It is proved what toFamily returns; conditions: the bounds in each statement. -/
namespace Go.Proofs.YtijhpfecbpkpdaaDoor
open Go.RowKit

theorem bcell {W w1 : World} (hb : Below W.heap.size W w1) : (∀ b o, b < W.heap.size → w1.cell? ⟨b, o, none⟩ = W.cell? ⟨b, o, none⟩) ∧ (∀ b o, b < W.heap.size → w1.frozen? ⟨b, o, none⟩ = W.frozen? ⟨b, o, none⟩) :=
  ⟨fun b o h => hb.cell (p := ⟨b, o, none⟩) h, fun b o h => hb.frozen (p := ⟨b, o, none⟩) h⟩

theorem own_mono {w : World} {B B' : Nat} {v : Value} {zs : List Int} (h : OwnI w B v zs) (hB : B' ≤ B) : OwnI w B' v zs := by
  refine ⟨h.1, ?_⟩
  rcases h.2 with h2 | ⟨g, cap, cur, e, hb, r⟩
  · exact .inl h2
  · exact .inr ⟨g, cap, cur, e, by omega, r⟩

theorem blk_cell {w : World} {g : Nat} {t : TypeId} {cs : Array Value} (h : w.heap[g]? = some (.cells cs t (0, 0))) (i : Nat) : w.cell? ⟨g, i, none⟩ = cs[i]? := cell_of_row w g i cs t (0, 0) h
theorem blk_frozen {w : World} {g : Nat} {t : TypeId} {cs : Array Value} (h : w.heap[g]? = some (.cells cs t (0, 0))) (i : Nat) : w.frozen? ⟨g, i, none⟩ = false := by simp [World.frozen?, h]
theorem alloc_new (w : World) (o : Obj) : (w.alloc o).heap[w.heap.size]? = some o := heap_alloc_new w o
theorem alloc_old (w : World) (o : Obj) (k : Nat) (h : k < w.heap.size) : (w.alloc o).heap[k]? = w.heap[k]? := Below.heap_alloc w o k h
theorem alloc3_0 (w : World) (o p q : Obj) : (((w.alloc o).alloc p).alloc q).heap[w.heap.size]? = some o := by
  rw [alloc_old _ _ _ (by simp; omega), alloc_old _ _ _ (by simp), alloc_new]

theorem alloc3_1 (w : World) (o p q : Obj) : (((w.alloc o).alloc p).alloc q).heap[w.heap.size + 1]? = some p := by
  rw [alloc_old _ _ _ (by simp), show w.heap.size + 1 = (w.alloc o).heap.size from by simp, alloc_new]

theorem alloc3_2 (w : World) (o p q : Obj) : (((w.alloc o).alloc p).alloc q).heap[w.heap.size + 1 + 1]? = some q := by
  rw [show w.heap.size + 1 + 1 = ((w.alloc o).alloc p).heap.size from by simp, alloc_new]

theorem below3 (w : World) (o p q : Obj) : Below w.heap.size w (((w.alloc o).alloc p).alloc q) :=
  ((((Below.refl _ w).alloc (Nat.le_refl _) o).alloc (by simp) p).alloc (by simp; omega) q)

def RetFam (w : World) (m : Int) (zs : List Int) (e : Ending) (w' : World) : Prop :=
  ∃ a cap, e = .returned (.agg #[.int .i64 m, .slice a zs.length cap]) ∧ OwnI w' w.heap.size (.slice a zs.length cap) zs ∧ Below w.heap.size w w'

set_option maxRecDepth 100000 in
set_option maxHeartbeats 400000 in
theorem toFamily_any (m : Int) (a : Option Addr) (cap : Nat) (zs : List Int) (w : World) (hz : Ints w w.heap.size a zs) (hn : zs.length ≤ 1048576) :
    Calls Tryd.prog 39 #[.agg #[.int .i64 m, .slice a zs.length cap]] w (RetFam w m zs) := by
  obtain ⟨n, hn'⟩ : ∃ n, n = zs.length := ⟨_, rfl⟩
  have HN : Hid (n = zs.length) := Lib.hid hn'
  rw [← hn']
  clear hn'
  have HZ := Lib.hid hz
  have HL := Lib.hid hn
  clear hz hn
  go_enter Tryd.func39, Tryd.ntmps39
  go_wp2_with fail
  rw [HN.out]
  have HB := Lib.hid (below3 w (.cells #[.int .i64 m, .slice a zs.length cap] 41) (.cells #[.int .i64 0, .slice none 0 0] 25) (.cells #[.int .i64 m, .slice none 0 0] 25))
  refine (toIntS_any _ _ zs _ ((HZ.out.below HB.out).mono (by simp; omega)) HL.out).mono ?_
  rintro e w1 ⟨a1, c1, rfl, hown, hb⟩
  have b1 : w1.heap[w.heap.size + 1]? = some (.cells #[.int .i64 0, .slice none 0 0] 25 (0, 0)) := (hb.block _ (by simp)).trans (alloc3_1 w _ _ _)
  have b2 : w1.heap[w.heap.size + 1 + 1]? = some (.cells #[.int .i64 m, .slice none 0 0] 25 (0, 0)) := (hb.block _ (by simp)).trans (alloc3_2 w _ _ _)
  have hsz : w.heap.size + 1 + 1 < w1.heap.size := by have := hb.size; simp at this; omega
  have d0 := blk_cell b1 0
  have d1 := blk_cell b1 1
  have e0 := blk_cell b2 0
  have e1 := blk_cell b2 1
  have f0 := blk_frozen b1 0
  have f1 := blk_frozen b1 1
  have g1 := blk_frozen b2 1
  simp only [Array.getElem?_eq_getElem, List.size_toArray, List.length_cons, List.length_nil, Nat.reduceAdd, Nat.reduceLT, List.getElem_toArray, List.getElem_cons_zero, List.getElem_cons_succ] at d0 d1 e0 e1
  have HH := Lib.hid hb
  have HO := Lib.hid hown
  clear hb hown b1 b2
  go_wp2
  refine bodyPost_ret (v := .agg #[.int .i64 m, .slice a1 zs.length c1]) (by simp [results, Tryd.results39, go_sem, d0, d1]) rfl ?_
  refine ⟨a1, c1, rfl, ?_, ?_⟩
  · exact own_mono (ownsRow_setCell_below (ownsRow_setCell_below (ownsRow_setCell_below HO.out (by simp) _) (by simp) _) (by simp) _) (by simp; omega)
  · exact (((HB.out.trans (HH.out.mono (by simp; omega))).setCell (p := ⟨w.heap.size + 1 + 1, 1, none⟩) (by simp; omega) _).setCell (p := ⟨w.heap.size + 1, 0, none⟩) (by simp) _).setCell (p := ⟨w.heap.size + 1, 1, none⟩) (by simp) _

end Go.Proofs.YtijhpfecbpkpdaaDoor

/- It is proved what eqIntS returns; conditions: the bounds in each statement. -/
namespace Go.Proofs.YtijhpfecbpkpdaaDoor
open Go.RowKit

theorem Ints.at_ {w : World} {B : Nat} {a : Option Addr} {zs : List Int} (h : Ints w B a zs) {k : Nat} (hk : k < zs.length) :
    ∃ b off, a = some ⟨b, off, none⟩ ∧ b < B ∧ w.cell? ⟨b, off + k, none⟩ = some (.int .i64 (zs[k]?.getD 0)) := by
  rcases h with h | ⟨b, off, e, hb, hc⟩
  · subst h; simp at hk
  · exact ⟨b, off, e, hb, hc k hk⟩

theorem below_drewN {B : Nat} {a w : World} (h : Below B a w) (n : Nat) : Below B a (w.drewN n) := ⟨h.os, h.tape, h.output, h.size, h.block⟩
theorem eqs_false {xs ys : List Int} {k : Nat} (hx : k < xs.length) (hy : k < ys.length) (h : xs[k]?.getD 0 ≠ ys[k]?.getD 0) : decide (xs = ys) = false := by
  simp only [decide_eq_false_iff_not]; rintro rfl; exact h rfl

theorem eqs_true {xs ys : List Int} (hl : xs.length = ys.length) (h : ∀ j, j < xs.length → xs[j]?.getD 0 = ys[j]?.getD 0) : decide (xs = ys) = true := by
  simp only [decide_eq_true_eq]
  apply List.ext_getElem hl
  intro i h1 h2
  have := h i h1
  simpa [h1, h2] using this

/-- Two lists are the same: a plain name, so that the walk does not take it apart. -/
def sameB (xs ys : List Int) : Bool := decide (xs = ys)

set_option maxRecDepth 100000 in
set_option maxHeartbeats 400000 in
theorem eqIntS_any (a b : Option Addr) (ca cb : Nat) (xs ys : List Int) (w : World) (ha : Ints w w.heap.size a xs) (hb : Ints w w.heap.size b ys) (hx : xs.length ≤ 1048576) (hy : ys.length ≤ 1048576) :
    Calls Tryd.prog 48 #[.slice a xs.length ca, .slice b ys.length cb] w fun e w' => e = .returned (.bool (sameB xs ys)) ∧ Below w.heap.size w w' := by
  by_cases hl : xs.length = ys.length
  · obtain ⟨n, hn⟩ : ∃ n, n = xs.length := ⟨_, rfl⟩
    have HN : Hid (n = xs.length) := Lib.hid hn
    have HM : Hid (n = ys.length) := Lib.hid (hn.trans hl)
    rw [← hl, ← hn]
    rw [← hn] at hx
    clear hl hn hy
    go_enter Tryd.func48, Tryd.ntmps48
    go_wp2
    go_loopw [5] (fun i wr => ∃ k : Nat, k ≤ n ∧ i = .int .i64 k ∧ (∀ j, j < k → xs[j]?.getD 0 = ys[j]?.getD 0) ∧ Below w.heap.size w wr) (fun i _ => n - (intOf i).toNat)
    case atStart => exact ⟨0, Nat.zero_le _, rfl, fun j hj => by omega, Below.refl _ _⟩
    case round =>
      obtain ⟨k, hk, rfl, he, hB⟩ := hrel
      by_cases hlt : k < n
      · obtain ⟨b1, o1, rfl, hb1, hc1⟩ := ha.at_ (k := k) (by rw [← HN.out]; exact hlt)
        obtain ⟨b2, o2, rfl, hb2, hc2⟩ := hb.at_ (k := k) (by rw [← HM.out]; exact hlt)
        have hk0 : (0 : Int) ≤ (k : Int) := by omega
        have hk1 : (k : Int) < (n : Int) := by omega
        have c1 := (hB.cell (p := ⟨b1, o1 + k, none⟩) hb1).trans hc1
        have c2 := (hB.cell (p := ⟨b2, o2 + k, none⟩) hb2).trans hc2
        have HB := Lib.hid hB
        have HE := Lib.hid he
        clear hc1 hc2 hB he
        by_cases hq : xs[k]?.getD 0 = ys[k]?.getD 0
        · have hbn : (xs[k]?.getD 0 != ys[k]?.getD 0) = false := by rw [hq]; simp
          have HQ := Lib.hid hq
          clear hq
          go_wp2
          go_quiet (fail)
          go_wp2
          go_roundw
          case rel => exact ⟨k + 1, by omega, by go_num, fun j hj => by
            rcases Nat.lt_succ_iff_lt_or_eq.1 hj with h | rfl
            · exact HE.out j h
            · exact HQ.out, below_drewN HB.out _⟩
          case measure => simp [intOf]; omega
        · have hbn : (xs[k]?.getD 0 != ys[k]?.getD 0) = true := by rw [bne_iff_ne]; exact hq
          have HQ : Hid (sameB xs ys = false) := Lib.hid (by unfold sameB; exact eqs_false (by rw [← HN.out]; exact hlt) (by rw [← HM.out]; exact hlt) hq)
          clear hq
          go_wp2
          go_quiet (fail)
          go_wp2
          go_ret
          exact ⟨by rw [HQ.out]; rfl, below_drewN HB.out _⟩
      · obtain rfl : k = n := by omega
        have HQ : Hid (sameB xs ys = true) := Lib.hid (by unfold sameB; exact eqs_true (by rw [← HN.out, ← HM.out]) (by rw [← HN.out]; exact he))
        have HB := Lib.hid hB
        clear he hB
        go_wp2
        go_ret
        exact ⟨by rw [HQ.out]; rfl, HB.out⟩
  · have hd : sameB xs ys = false := by unfold sameB; simp only [decide_eq_false_iff_not]; rintro rfl; exact hl rfl
    have hne : ((xs.length : Int) == (ys.length : Int)) = false := by simp; omega
    have hne' : ((xs.length : Int) != (ys.length : Int)) = true := by simp; omega
    rw [hd]
    go_enter Tryd.func48, Tryd.ntmps48
    go_wp2
    go_ret
    exact ⟨rfl, Below.refl _ _⟩

end Go.Proofs.YtijhpfecbpkpdaaDoor

/- It is proved what l6In, l1All and setIn return; conditions: the bounds in each statement. -/
namespace Go.Proofs.YtijhpfecbpkpdaaDoor
open Go.RowKit

def inB (n lo hi : Int) : Bool := decide (lo ≤ n) && decide (n ≤ hi)
theorem inB_true {n lo hi : Int} (h1 : lo ≤ n) (h2 : n ≤ hi) : inB n lo hi = true := by simp [inB, h1, h2]
theorem inB_false {n lo hi : Int} (h : n < lo ∨ hi < n) : inB n lo hi = false := by
  simp [inB]; omega

theorem inB_out {n lo hi : Int} (h : inB n lo hi = true) : lo ≤ n ∧ n ≤ hi := by simpa [inB] using h
theorem inB_no {n lo hi : Int} (h : inB n lo hi = false) : n < lo ∨ hi < n := by
  simp [inB] at h; omega

theorem l6In_any (n lo hi : Int) (w : World) :
    Calls Tryd.prog 59 #[.int .i64 n, .int .i64 lo, .int .i64 hi] w fun e w' => e = .returned (.bool (inB n lo hi)) ∧ w = w' := by
  by_cases h1 : lo ≤ n
  · by_cases h2 : n ≤ hi
    · rw [inB_true h1 h2]
      go_enter Tryd.func59, Tryd.ntmps59
      go_wp2
      go_ret
      exact ⟨rfl, rfl⟩
    · rw [inB_false (.inr (by omega))]
      go_enter Tryd.func59, Tryd.ntmps59
      go_wp2
      go_ret
      exact ⟨rfl, rfl⟩
  · rw [inB_false (.inl (by omega))]
    have h3 : n < lo := by omega
    go_enter Tryd.func59, Tryd.ntmps59
    go_wp2
    go_ret
    exact ⟨rfl, rfl⟩

/-- The set of all members. -/
def fullI (m : Int) : Int := 2 ^ m.toNat - 1

theorem m16 {m : Int} (h1 : 1 ≤ m) (h2 : m ≤ 6) : m = 1 ∨ m = 2 ∨ m = 3 ∨ m = 4 ∨ m = 5 ∨ m = 6 := by omega
theorem l1All_any (m : Int) (a : Option Addr) (n cap : Nat) (w : World) (h1 : 1 ≤ m) (h2 : m ≤ 6) :
    Calls Tryd.prog 60 #[.agg #[.int .i64 m, .slice a n cap]] w fun e w' => e = .returned (.int .i64 (fullI m)) ∧ w.alloc (.cells #[.int .i64 m, .slice a n cap] 25) = w' := by
  rcases m16 h1 h2 with rfl | rfl | rfl | rfl | rfl | rfl
  all_goals
    go_enter Tryd.func60, Tryd.ntmps60
    go_wp2
    go_ret
    exact ⟨rfl, rfl⟩

theorem setIn_any (m z : Int) (w : World) (h1 : 1 ≤ m) (h2 : m ≤ 6) :
    Calls Tryd.prog 58 #[.int .i64 m, .int .i64 z] w fun e w' => e = .returned (.bool (inB z 0 (fullI m))) ∧ w = w' := by
  by_cases hz : 0 ≤ z
  · by_cases hf : z ≤ fullI m
    · rw [inB_true hz hf]
      rcases m16 h1 h2 with rfl | rfl | rfl | rfl | rfl | rfl
      all_goals
        simp [fullI] at hf
        go_enter Tryd.func58, Tryd.ntmps58
        go_wp2
        go_ret
        exact ⟨by simp; omega, rfl⟩
    · rw [inB_false (.inr (by omega))]
      rcases m16 h1 h2 with rfl | rfl | rfl | rfl | rfl | rfl
      all_goals
        simp [fullI] at hf
        go_enter Tryd.func58, Tryd.ntmps58
        go_wp2
        go_ret
        exact ⟨by simp; omega, rfl⟩
  · rw [inB_false (.inl (by omega))]
    have hz' : z < 0 := by omega
    go_enter Tryd.func58, Tryd.ntmps58
    go_wp2
    go_ret
    exact ⟨rfl, rfl⟩

/-- A family is one. -/
def famIn (m : Int) (zs : List Int) : Bool := inB m 1 6 && (decide (zs.length ≤ 8) && zs.all fun z => inB z 0 (fullI m))

theorem famIn_out {m : Int} {zs : List Int} (h : famIn m zs = true) : 1 ≤ m ∧ m ≤ 6 ∧ zs.length ≤ 8 ∧ ∀ z ∈ zs, 0 ≤ z ∧ z ≤ fullI m := by
  simp only [famIn, Bool.and_eq_true, decide_eq_true_eq, List.all_eq_true] at h
  exact ⟨(inB_out h.1).1, (inB_out h.1).2, h.2.1, fun z hz => inB_out (h.2.2 z hz)⟩

theorem famIn_m {m : Int} {zs : List Int} (h : inB m 1 6 = false) : famIn m zs = false := by simp [famIn, h]
theorem famIn_l {m : Int} {zs : List Int} (h : 8 < zs.length) : famIn m zs = false := by simp [famIn]; intros; omega
theorem famIn_z {m : Int} {zs : List Int} {k : Nat} (hk : k < zs.length) (h : inB (zs[k]?.getD 0) 0 (fullI m) = false) : famIn m zs = false := by
  have : (zs.all fun z => inB z 0 (fullI m)) = false := by
    rw [List.all_eq_false]
    refine ⟨zs[k], List.getElem_mem _, ?_⟩
    simp [hk] at h
    simp [h]
  simp [famIn, this]

theorem famIn_y {m : Int} {zs : List Int} (h1 : inB m 1 6 = true) (h2 : zs.length ≤ 8) (h : ∀ k, k < zs.length → inB (zs[k]?.getD 0) 0 (fullI m) = true) : famIn m zs = true := by
  simp only [famIn, Bool.and_eq_true, decide_eq_true_eq, List.all_eq_true]
  refine ⟨h1, h2, fun z hz => ?_⟩
  obtain ⟨k, hk, rfl⟩ := List.getElem_of_mem hz
  have := h k hk
  simpa [hk] using this

end Go.Proofs.YtijhpfecbpkpdaaDoor

/- It is proved what eqFamily and the FamilyIn of the program return; conditions: the bounds in each statement. -/
namespace Go.Proofs.YtijhpfecbpkpdaaDoor
open Go.RowKit

def sameF (m : Int) (xs : List Int) (k : Int) (ys : List Int) : Bool := decide (m = k) && sameB xs ys
theorem sameF_self (m : Int) (xs : List Int) : sameF m xs m xs = true := by simp [sameF, sameB]
theorem below2 (w : World) (o o' : Obj) : Below w.heap.size w ((w.alloc o).alloc o') := ((Below.refl _ _).alloc (Nat.le_refl _) o).alloc (by simp) o'
theorem below1 (w : World) (o : Obj) : Below w.heap.size w (w.alloc o) := (Below.refl _ _).alloc (Nat.le_refl _) o
set_option maxRecDepth 100000 in
set_option maxHeartbeats 400000 in
theorem eqFamily_any (m k : Int) (a b : Option Addr) (ca cb : Nat) (xs ys : List Int) (w : World) (ha : Ints w w.heap.size a xs) (hb : Ints w w.heap.size b ys) (hx : xs.length ≤ 1048576) (hy : ys.length ≤ 1048576) :
    Calls Tryd.prog 41 #[.agg #[.int .i64 m, .slice a xs.length ca], .agg #[.int .i64 k, .slice b ys.length cb]] w fun e w' => e = .returned (.bool (sameF m xs k ys)) ∧ Below w.heap.size w w' := by
  have HB := Lib.hid (below2 w (.cells #[.int .i64 m, .slice a xs.length ca] 25) (.cells #[.int .i64 k, .slice b ys.length cb] 25))
  by_cases h : m = k
  · subst h
    have H1 : Hid (sameF m xs m ys = sameB xs ys) := Lib.hid (by simp [sameF])
    cases hs : sameB xs ys
    all_goals
      have HS := Lib.hid hs
      clear hs
      go_enter Tryd.func41, Tryd.ntmps41
      go_wp2_with (go_at_call 48; refine (eqIntS_any _ _ _ _ xs ys _ ((ha.below HB.out).mono (by simp; omega)) ((hb.below HB.out).mono (by simp; omega)) hx hy).mono ?_; rintro e w1 ⟨rfl, hb1⟩; rw [HS.out])
      go_ret
      exact ⟨by rw [H1.out, HS.out]; rfl, HB.out.trans (hb1.mono (by simp; omega))⟩
  · have H1 : Hid (sameF m xs k ys = false) := Lib.hid (by simp [sameF, h])
    have hn : (m != k) = true := by rw [bne_iff_ne]; exact h
    clear h
    go_enter Tryd.func41, Tryd.ntmps41
    go_wp2
    go_ret
    exact ⟨by rw [H1.out]; rfl, HB.out⟩

set_option maxRecDepth 100000 in
set_option maxHeartbeats 400000 in
theorem implFamilyIn_any (m : Int) (a : Option Addr) (c : Nat) (zs : List Int) (w : World) (ha : Ints w w.heap.size a zs) (hx : zs.length ≤ 1048576) :
    Calls Tryd.prog 15 #[.agg #[.int .i64 m, .slice a zs.length c]] w fun e w' => e = .returned (.bool (famIn m zs)) ∧ Below w.heap.size w w' := by
  obtain ⟨n, hn⟩ : ∃ n, n = zs.length := ⟨_, rfl⟩
  have HN : Hid (n = zs.length) := Lib.hid hn
  rw [← hn]
  rw [← hn] at hx
  have HB := Lib.hid (below1 w (.cells #[.int .i64 m, .slice a n c] 25))
  by_cases h1 : 1 ≤ m
  · by_cases h2 : m ≤ 6
    · by_cases h3 : n ≤ 8
      · clear hn
        go_enter Tryd.func15, Tryd.ntmps15
        go_wp2
        go_loop [4, 22] (fun s i => ∃ k : Nat, k ≤ n ∧ i = .int .i64 k ∧ (∀ j, j < k → inB (zs[j]?.getD 0) 0 (fullI m) = true)) (fun _ i => n - (intOf i).toNat)
        case atStart => exact ⟨0, Nat.zero_le _, rfl, fun j hj => by omega⟩
        case round =>
          obtain ⟨k, hk, rfl, he⟩ := hrel
          by_cases hlt : k < n
          · obtain ⟨b1, o1, rfl, hb1, hc1⟩ := ha.at_ (k := k) (by rw [← HN.out]; exact hlt)
            have c1 := (HB.out.cell (p := ⟨b1, o1 + k, none⟩) hb1).trans hc1
            have HE := Lib.hid he
            clear he hc1
            cases hs : inB (zs[k]?.getD 0) 0 (fullI m)
            · have HS := Lib.hid hs
              have HF : Hid (famIn m zs = false) := Lib.hid (famIn_z (by rw [← HN.out]; exact hlt) hs)
              clear hs
              go_wp2_with (go_at_call 58; refine (setIn_any _ _ _ h1 h2).mono ?_; rintro e w' ⟨rfl, rfl⟩; rw [HS.out])
              go_ret
              exact ⟨by rw [HF.out]; rfl, HB.out⟩
            · have HS := Lib.hid hs
              clear hs
              go_wp2_with (go_at_call 58; refine (setIn_any _ _ _ h1 h2).mono ?_; rintro e w' ⟨rfl, rfl⟩; rw [HS.out])
              go_round
              case rel => exact ⟨k + 1, by omega, by go_num, fun j hj => by
                rcases Nat.lt_succ_iff_lt_or_eq.1 hj with h | rfl
                · exact HE.out j h
                · exact HS.out⟩
              case measure => simp [intOf]; omega
          · obtain rfl : k = n := by omega
            have HF : Hid (famIn m zs = true) := Lib.hid (famIn_y (inB_true h1 h2) (by rw [← HN.out]; exact h3) (by rw [← HN.out]; exact he))
            clear he
            go_wp2
            go_ret
            exact ⟨by rw [HF.out]; rfl, HB.out⟩
      · have HF : Hid (famIn m zs = false) := Lib.hid (famIn_l (by omega))
        clear hn
        go_enter Tryd.func15, Tryd.ntmps15
        go_wp2
        go_ret
        exact ⟨by rw [HF.out]; rfl, HB.out⟩
    · have HF : Hid (famIn m zs = false) := Lib.hid (famIn_m (inB_false (.inr (by omega))))
      clear hn
      go_enter Tryd.func15, Tryd.ntmps15
      go_wp2
      go_ret
      exact ⟨by rw [HF.out]; rfl, HB.out⟩
  · have HF : Hid (famIn m zs = false) := Lib.hid (famIn_m (inB_false (.inl (by omega))))
    clear hn
    go_enter Tryd.func15, Tryd.ntmps15
    go_wp2
    go_ret
    exact ⟨by rw [HF.out]; rfl, HB.out⟩

end Go.Proofs.YtijhpfecbpkpdaaDoor

/- It is proved what markIntS, markFamily, heldIntS and heldFamily return and write; conditions: the bounds in each statement. -/
namespace Go.Proofs.YtijhpfecbpkpdaaDoor
open Go.RowKit

/-- 1, 2, .., n. -/
def marks (n : Nat) : List Int := (List.range n).map fun (i : Nat) => ((i : Int) + 1)

theorem marks_length (n : Nat) : (marks n).length = n := by simp [marks]
theorem marks_succ (n : Nat) : marks (n + 1) = marks n ++ [(n : Int) + 1] := by simp [marks, List.range_succ]
theorem marks_at (n k : Nat) (h : k < n) : (marks n)[k]?.getD 0 = (k : Int) + 1 := by simp [marks, h]
theorem only_setCell {a w : World} {g : Nat} (h : a.grownBy w (some g)) {p : Addr} (hp : p.block = g) (u : Value) : a.grownBy (w.setCell p u) (some g) :=
  ⟨h.os, h.tape, h.output, by simpa [World.setCell] using h.size, fun i hi hne => (Below.heap_setCell w p u i (by rintro rfl; exact hne (by rw [hp]))).trans (h.block i hi hne)⟩

theorem only_alloc {a w : World} {row : Option Nat} (h : a.grownBy w row) (o : Obj) : a.grownBy (w.alloc o) row :=
  ⟨h.os, h.tape, h.output, Nat.le_trans h.size (by simp), fun i hi hne => (Below.heap_alloc w o i (Nat.lt_of_lt_of_le hi h.size)).trans (h.block i hi hne)⟩

theorem only_of_below {a w : World} (h : Below a.heap.size a w) (row : Option Nat) : a.grownBy w row := ⟨h.os, h.tape, h.output, h.size, fun i hi _ => h.block i hi⟩
theorem only_trans {a b c : World} {row : Option Nat} (h : a.grownBy b row) (k : b.grownBy c row) : a.grownBy c row :=
  ⟨k.os.trans h.os, k.tape.trans h.tape, k.output.trans h.output, Nat.le_trans h.size k.size, fun i hi hne => (k.block i (Nat.lt_of_lt_of_le hi h.size) hne).trans (h.block i hi hne)⟩

theorem mark_step (zs : List Int) (k : Nat) (h : k < zs.length) :
    ((marks k ++ zs.drop k).map (Value.int .i64)).set k (.int .i64 ((k : Int) + 1)) = (marks (k + 1) ++ zs.drop (k + 1)).map (Value.int .i64) := by
  rw [← List.map_set]
  congr 1
  rw [List.set_append_right _ _ (by rw [marks_length]; omega), marks_length, Nat.sub_self, List.drop_eq_getElem_cons h, List.set_cons_zero, marks_succ, List.append_assoc]
  rfl

theorem mark_cell (zs : List Int) (k : Nat) (h : k < zs.length) : ((marks k ++ zs.drop k).map (Value.int .i64))[k]? = some (.int .i64 (zs[k]?.getD 0)) := by
  rw [List.getElem?_map, List.getElem?_append_right (by rw [marks_length]; omega), marks_length, Nat.sub_self]
  simp [h]

/-- A row of n ints of the call's own, its length a letter of its own. -/
def OwnN (w : World) (B : Nat) (a : Option Addr) (n cap : Nat) (zs : List Int) : Prop := w.ownsRow B 3 1 (.slice a n cap) n (zs.map (Value.int .i64))

theorem OwnN.addr {w : World} {B : Nat} {a : Option Addr} {n cap : Nat} {zs : List Int} (h : OwnN w B a n cap zs) (hn : 0 < n) : ∃ g, a = some ⟨g, 0, none⟩ ∧ B ≤ g ∧ g < w.heap.size := by
  rcases h.2 with ⟨_, hn'⟩ | ⟨g, c, cur, e, hb, hg, _⟩
  · omega
  · injection e with e1 e2 e3
    exact ⟨g, e1, hb, (Array.getElem?_eq_some_iff.1 hg).1⟩

def Marked (W : World) (B : Nat) (a : Option Addr) (n cap : Nat) (e : Ending) (W' : World) : Prop :=
  e = .returned (.int .i64 ((n : Int) + 1)) ∧ OwnI W' B (.slice a n cap) (marks n) ∧ W.grownBy W' (Value.slice a n cap).ownBlock

set_option maxRecDepth 100000 in
set_option maxHeartbeats 400000 in
theorem markIntS_any (a : Option Addr) (cap B : Nat) (zs : List Int) (w : World) (ho : OwnI w B (.slice a zs.length cap) zs) (hn : zs.length ≤ 1048576) :
    Calls Tryd.prog 49 #[.slice a zs.length cap, .int .i64 1] w (Marked w B a zs.length cap) := by
  obtain ⟨n, hl⟩ : ∃ n, n = zs.length := ⟨_, rfl⟩
  have HN : Hid (n = zs.length) := Lib.hid hl
  have hnz : n ≤ zs.length := by omega
  have hO : Hid (OwnN w B a n cap (marks 0 ++ zs.drop 0)) := Lib.hid (by rw [hl]; exact ho)
  rw [← hl] at hn ⊢
  clear hl ho
  go_enter Tryd.func49, Tryd.ntmps49
  go_wp2
  go_loopw [1, 5] (fun kk i wr => ∃ k : Nat, k ≤ n ∧ i = .int .i64 k ∧ kk = .int .i64 ((k : Int) + 1) ∧ OwnN wr B a n cap (marks k ++ zs.drop k) ∧ w.grownBy wr (Value.slice a n cap).ownBlock) (fun _ i _ => n - (intOf i).toNat)
  case atStart => exact ⟨0, Nat.zero_le _, rfl, rfl, hO.out, World.grownBy.refl _ _⟩
  case round =>
    obtain ⟨k, hk, rfl, rfl, ho, hg⟩ := hrel
    by_cases hlt : k < n
    · obtain ⟨g, rfl, hgB, hgs⟩ := ho.addr (by omega)
      have hcs : wr.cell? ⟨g, k, none⟩ = some (.int .i64 (zs[k]?.getD 0)) := by
        rw [World.ownsRow.cellAt ho k (by omega)]; exact mark_cell zs k (by omega)
      have hfz := World.ownsRow.frozenAt ho k
      have HS := Lib.hid (World.ownsRow.stored ho k (.int .i64 ((k : Int) + 1)))
      have HG := Lib.hid hg
      clear ho hg
      go_wp2
      go_roundw
      case rel => exact ⟨k + 1, by omega, by go_num, by go_num, by have h1 := HS.out.1; rw [mark_step zs k (by omega)] at h1; exact h1, only_setCell (p := ⟨g, k, none⟩) HG.out rfl _⟩
      case measure => simp [intOf]; omega
    · obtain rfl : k = n := by omega
      have HD : Hid (Marked w B a k cap (.returned (.int .i64 ((k : Int) + 1))) wr) := by
        refine ⟨rfl, ?_, hg⟩
        have ho' := ho
        unfold OwnN at ho'
        rw [List.drop_eq_nil_of_le (by have := HN.out; omega), List.append_nil] at ho'
        unfold OwnI
        rw [marks_length]
        exact ho'
      clear ho hg
      go_wp2
      go_ret
      exact HD.out

theorem grow_of_alloc {W W' : World} {o : Obj} {row : Option Nat} (h : (W.alloc o).grownBy W' row) (hr : row ≠ some W.heap.size) : W.grownBy W' row :=
  only_trans (World.grownBy_alloc W o row) h

set_option maxRecDepth 100000 in
set_option maxHeartbeats 400000 in
theorem markFamily_any (m : Int) (a : Option Addr) (cap B : Nat) (zs : List Int) (w : World) (ho : OwnI w B (.slice a zs.length cap) zs) (hn : zs.length ≤ 1048576) :
    Calls Tryd.prog 44 #[.agg #[.int .i64 m, .slice a zs.length cap], .int .i64 1] w (Marked w B a zs.length cap) := by
  have HO : Hid (OwnI (w.alloc (.cells #[.int .i64 m, .slice a zs.length cap] 25)) B (.slice a zs.length cap) zs) := Lib.hid (World.ownsRow.alloc ho _)
  clear ho
  go_enter Tryd.func44, Tryd.ntmps44
  go_wp2_with fail
  refine (markIntS_any _ _ _ zs _ HO.out hn).mono ?_
  rintro e w' ⟨rfl, ho, hg⟩
  have HD : Hid (Marked w B a zs.length cap (.returned (.int .i64 ((zs.length : Int) + 1))) w') := ⟨rfl, ho, only_trans (World.grownBy_alloc w _ _) hg⟩
  clear ho hg
  go_wp2
  go_ret
  exact HD.out

set_option maxRecDepth 100000 in
set_option maxHeartbeats 400000 in
theorem heldIntS_any (a : Option Addr) (cap n B : Nat) (w : World) (ha : Ints w B a (marks n)) (hn : n ≤ 1048576) :
    Calls Tryd.prog 50 #[.slice a n cap, .int .i64 1] w fun e w' => e = .returned (.int .i64 ((n : Int) + 1)) ∧ w = w' := by
  go_enter Tryd.func50, Tryd.ntmps50
  go_wp2
  go_loop [1, 5] (fun kk i => ∃ k : Nat, k ≤ n ∧ i = .int .i64 k ∧ kk = .int .i64 ((k : Int) + 1)) (fun _ i => n - (intOf i).toNat)
  case atStart => exact ⟨0, Nat.zero_le _, rfl, rfl⟩
  case round =>
    obtain ⟨k, hk, rfl, rfl⟩ := hrel
    by_cases hlt : k < n
    · obtain ⟨b, off, rfl, hb, hc⟩ := ha.at_ (k := k) (by rw [marks_length]; exact hlt)
      rw [marks_at n k hlt] at hc
      go_wp2
      go_round
      case rel => exact ⟨k + 1, by omega, by go_num, by go_num⟩
      case measure => simp [intOf]; omega
    · obtain rfl : k = n := by omega
      go_wp2
      go_ret
      exact ⟨rfl, rfl⟩

set_option maxRecDepth 100000 in
set_option maxHeartbeats 400000 in
theorem heldFamily_any (m : Int) (a : Option Addr) (cap n : Nat) (w : World) (ha : Ints w w.heap.size a (marks n)) (hn : n ≤ 1048576) :
    Calls Tryd.prog 45 #[.agg #[.int .i64 m, .slice a n cap], .int .i64 1] w fun e w' => e = .returned (.int .i64 ((n : Int) + 1)) ∧ Below w.heap.size w w' := by
  have HA := Lib.hid (ha.below (below1 w (.cells #[.int .i64 m, .slice a n cap] 25)))
  clear ha
  go_enter Tryd.func45, Tryd.ntmps45
  go_wp2_with (go_at_call 50; refine (heldIntS_any _ _ _ _ _ HA.out hn).mono ?_; rintro e w' ⟨rfl, rfl⟩)
  go_ret
  exact ⟨rfl, below1 _ _⟩

end Go.Proofs.YtijhpfecbpkpdaaDoor

/- It is proved what a round of the method mapped leaves; conditions: those of each statement. -/
namespace Go.Proofs.YtijhpfecbpkpdaaDoor
open Go.RowKit Go.Shelf

attribute [local go_sem] Oper.semAt_some

/-- Block b holds just these cells. -/
def HasBlk (W : World) (b : Nat) (cs : Array Value) (t : TypeId) : Prop := W.heap[b]? = some (.cells cs t (0, 0))

theorem lt_of_some {W : World} {b : Nat} {o : Obj} (h : W.heap[b]? = some o) : b < W.heap.size := (Array.getElem?_eq_some_iff.1 h).1
theorem HasBlk.kept {W W' : World} {b : Nat} {cs : Array Value} {t : TypeId} {row : Option Nat} (h : HasBlk W b cs t) (hg : W.grownBy W' row) (hr : row ≠ some b) : HasBlk W' b cs t := (hg.block b (lt_of_some h) (Ne.symm hr)).trans h
theorem HasBlk.alloc {W : World} {b : Nat} {cs : Array Value} {t : TypeId} (h : HasBlk W b cs t) (o : Obj) : HasBlk (W.alloc o) b cs t := (alloc_old _ _ _ (lt_of_some h)).trans h
theorem HasBlk.far {W : World} {b : Nat} {cs : Array Value} {t : TypeId} (h : HasBlk W b cs t) {p : Addr} (hp : b ≠ p.block) (u : Value) : HasBlk (W.setCell p u) b cs t := (Below.heap_setCell W p u b hp).trans h
theorem hasBlk_own {β : Type} (b : Nat) (cs : Array Value) (t : TypeId) : Own (fun (_ : β) W => HasBlk W b cs t) := fun s W W' row h hg hrow =>
  HasBlk.kept h hg (fun e => by obtain ⟨o, ho, hc⟩ := hrow b e; rw [show W.heap[b]? = _ from h] at ho; cases ho; cases hc)

theorem ownsRow_base {w : World} {B B' : Nat} {e : TypeId} {size n : Nat} {v : Value} {xs : List Value} (h : w.ownsRow B' e size v n xs) (hB : B ≤ B') : w.ownsRow B e size v n xs := by
  refine ⟨h.1, ?_⟩
  rcases h.2 with h2 | ⟨g, cap, cur, e, hb, r⟩
  · exact .inl h2
  · exact .inr ⟨g, cap, cur, e, by omega, r⟩

theorem made_0 {w w1 : World} {o p q : Obj} (hg : (((w.alloc o).alloc p).alloc q).grownBy w1 none) : w1.heap[w.heap.size]? = some o := (hg.block _ (by simp; omega) (by simp)).trans (alloc3_0 _ _ _ _)
theorem made_1 {w w1 : World} {o p q : Obj} (hg : (((w.alloc o).alloc p).alloc q).grownBy w1 none) : w1.heap[w.heap.size + 1]? = some p := (hg.block _ (by simp) (by simp)).trans (alloc3_1 _ _ _ _)
theorem made_2 {w w1 : World} {o p q : Obj} (hg : (((w.alloc o).alloc p).alloc q).grownBy w1 none) : w1.heap[w.heap.size + 1 + 1]? = some q := (hg.block _ (by simp) (by simp)).trans (alloc3_2 _ _ _ _)
theorem below_made {w w1 : World} {o p q : Obj} (hg : (((w.alloc o).alloc p).alloc q).grownBy w1 none) : Below w.heap.size (((w.alloc o).alloc p).alloc q) w1 := (Below.refl _ _).grown hg (by simp; omega) (by simp)
/-- A goal that the walk leaves alone. -/
def Marked_ (p : Prop) : Prop := p

theorem mark_make {p : Prop} (h : Marked_ p) : p := h
theorem unmark_make {p : Prop} (h : p) : Marked_ p := h
theorem own_after {W w2 : World} {B : Nat} {e : TypeId} {size n : Nat} {v : Value} {xs : List Value} (h : W.ownsRow B e size v n xs) (hb : Below W.drew.heap.size W.drew w2) : w2.ownsRow B e size v n xs :=
  World.ownsRow.kept (w := W.drew) h (only_of_below hb none) (by cases v.ownBlock <;> simp)

theorem spare_cell {W : World} {B g n cap : Nat} {xs : List Value} (h : W.ownsRow B 3 1 (.slice (some ⟨g, 0, none⟩) n cap) n xs) (k : Nat) (hk : k < cap) :
    ∃ u, W.cell? ⟨g, k, none⟩ = some u ∧ W.frozen? ⟨g, k, none⟩ = false := by
  rcases h.2 with ⟨e, _⟩ | ⟨g', cap', cur, e, _, hg, _, _, hs, _⟩
  · cases e
  · injection e with e1 e2 e3
    injection e1 with e1
    injection e1 with e1
    subst e1; subst e3
    exact ⟨cur[k]'(by omega), (blk_cell hg k).trans (Array.getElem?_eq_getElem (by omega)), blk_frozen hg k⟩

theorem own_snoc {W : World} {B g n cap : Nat} {xs : List Value} (h : W.ownsRow B 3 1 (.slice (some ⟨g, 0, none⟩) n cap) n xs) (hn : n < cap) (y : Value) :
    (W.setCell ⟨g, n, none⟩ y).ownsRow B 3 1 (.slice (some ⟨g, 0, none⟩) (n + 1) cap) (n + 1) (xs ++ [y]) := by
  rcases h.2 with ⟨e, _⟩ | ⟨g', cap', cur, e, hb, hg, _, hm, hs, ht⟩
  · cases e
  · injection e with e1 e2 e3
    injection e1 with e1
    injection e1 with e1
    subst e1; subst e3
    refine ⟨by have := h.1; simp; omega, .inr ⟨g, cap, cur.setIfInBounds n y, rfl, hb, heap_setCell_same W g n cur 3 y hg, by omega, hm, by simpa using hs, ?_⟩⟩
    simp only [Nat.mul_one] at ht ⊢
    rw [Array.toList_setIfInBounds, List.take_succ_eq_append_getElem (by simp; omega), List.take_set_of_le (Nat.le_refl _), ht]
    simp

theorem after_spare {w2 : World} {G M k : Nat} {o : Obj} {y v : Value} (h : G < M) (hM : M < w2.heap.size) (hc : w2.cell? ⟨M, 0, none⟩ = some v) : ((w2.alloc o).setCell ⟨G, k, none⟩ y).cell? ⟨M, 0, none⟩ = some v :=
  (World.cell?_setCell_other _ _ _ _ (fun e => by injection e; omega)).trans ((World.cell?_alloc_lt _ _ _ hM).trans hc)

theorem after_spare_f {w2 : World} {G M k : Nat} {o : Obj} {y : Value} (h : G < M) (hM : M < w2.heap.size) (hc : w2.frozen? ⟨M, 0, none⟩ = false) : ((w2.alloc o).setCell ⟨G, k, none⟩ y).frozen? ⟨M, 0, none⟩ = false := by
  rw [World.frozen?_setCell]
  exact (World.frozen?_of_block (a := ⟨M, 0, none⟩) (alloc_old _ _ _ hM)).trans hc

theorem ownsRow_setCell_ne {W : World} {B : Nat} {e : TypeId} {size n : Nat} {v : Value} {xs : List Value} (h : W.ownsRow B e size v n xs) {p : Addr} (hp : v.ownBlock ≠ some p.block) (u : Value) : (W.setCell p u).ownsRow B e size v n xs := by
  refine ⟨h.1, ?_⟩
  rcases h.2 with h2 | ⟨g, cap, cur, rfl, hb, hg, r⟩
  · exact .inl h2
  · exact .inr ⟨g, cap, cur, rfl, hb, (Below.heap_setCell W p u g (fun e => hp (by simp [Value.ownBlock, e]))).trans hg, r⟩

/-- One round of mapped: what it leaves. -/
theorem mapped_end {w W w2 : World} {f : Int → Int} {n M G B b0 b1 b2 t0 t1 t2 : Nat} {c0 c1 c2 : Array Value} {pre : List (Nat × Int)} {x : Nat × Int} (hWs : w.heap.size ≤ W.heap.size) (hGM : G < M) (hG : w.heap.size ≤ G) (hlt : pre.length < n)
    (hb2 : Below W.drew.heap.size W.drew w2) (hv : Boxed W M 23 (.slice (some ⟨G, 0, none⟩) pre.length n))
    (hrow : W.ownsRow w.heap.size 3 1 (.slice (some ⟨G, 0, none⟩) pre.length n) pre.length ((pre.map fun p => f p.2).map (Value.int .i64))) (hB : Below w.heap.size w W)
    (q0 : HasBlk W b0 c0 t0) (h0 : b0 < G) (q1 : HasBlk W b1 c1 t1) (h1 : b1 < G) (q2 : HasBlk W b2 c2 t2) (h2 : b2 < G) :
    KeepsFrom B W (((w2.setCell ⟨G, pre.length, none⟩ (.int .i64 (f x.2))).setCell ⟨M, 0, none⟩ (.slice (some ⟨G, 0, none⟩) (pre.length + 1) n)).alloc (.cells #[.int .i64 (f x.2)] 3)) ∧
    Below w.heap.size W (((w2.setCell ⟨G, pre.length, none⟩ (.int .i64 (f x.2))).setCell ⟨M, 0, none⟩ (.slice (some ⟨G, 0, none⟩) (pre.length + 1) n)).alloc (.cells #[.int .i64 (f x.2)] 3)) ∧
    ((∃ v, Boxed (((w2.setCell ⟨G, pre.length, none⟩ (.int .i64 (f x.2))).setCell ⟨M, 0, none⟩ (.slice (some ⟨G, 0, none⟩) (pre.length + 1) n)).alloc (.cells #[.int .i64 (f x.2)] 3)) M 23 v ∧
      (((w2.setCell ⟨G, pre.length, none⟩ (.int .i64 (f x.2))).setCell ⟨M, 0, none⟩ (.slice (some ⟨G, 0, none⟩) (pre.length + 1) n)).alloc (.cells #[.int .i64 (f x.2)] 3)).ownsRow w.heap.size 3 1 v (pre ++ [x]).length (((pre ++ [x]).map fun p => f p.2).map (Value.int .i64)) ∧
      v = .slice (some ⟨G, 0, none⟩) (pre ++ [x]).length n) ∧
      HasBlk (((w2.setCell ⟨G, pre.length, none⟩ (.int .i64 (f x.2))).setCell ⟨M, 0, none⟩ (.slice (some ⟨G, 0, none⟩) (pre.length + 1) n)).alloc (.cells #[.int .i64 (f x.2)] 3)) b0 c0 t0 ∧
      HasBlk (((w2.setCell ⟨G, pre.length, none⟩ (.int .i64 (f x.2))).setCell ⟨M, 0, none⟩ (.slice (some ⟨G, 0, none⟩) (pre.length + 1) n)).alloc (.cells #[.int .i64 (f x.2)] 3)) b1 c1 t1 ∧
      HasBlk (((w2.setCell ⟨G, pre.length, none⟩ (.int .i64 (f x.2))).setCell ⟨M, 0, none⟩ (.slice (some ⟨G, 0, none⟩) (pre.length + 1) n)).alloc (.cells #[.int .i64 (f x.2)] 3)) b2 c2 t2) ∧
    Below w.heap.size w (((w2.setCell ⟨G, pre.length, none⟩ (.int .i64 (f x.2))).setCell ⟨M, 0, none⟩ (.slice (some ⟨G, 0, none⟩) (pre.length + 1) n)).alloc (.cells #[.int .i64 (f x.2)] 3)) := by
  have hbW : Below W.heap.size W w2 := ⟨hb2.os, hb2.tape, hb2.output, hb2.size, hb2.block⟩
  have hsz2 := hbW.size
  have k2 : KeepsOthers W w2 := ⟨hbW.size, fun k o hk _ => (hbW.block k (lt_of_some hk)).trans hk⟩
  have hb : Below w.heap.size W (((w2.setCell ⟨G, pre.length, none⟩ (.int .i64 (f x.2))).setCell ⟨M, 0, none⟩ (.slice (some ⟨G, 0, none⟩) (pre.length + 1) n)).alloc (.cells #[.int .i64 (f x.2)] 3)) :=
    (((hbW.mono hWs).setCell (p := ⟨G, pre.length, none⟩) hG _).setCell (p := ⟨M, 0, none⟩) (show w.heap.size ≤ M by omega) _).alloc (by simp; omega) _
  have hv2 : Boxed w2 M 23 (.slice (some ⟨G, 0, none⟩) pre.length n) := (hbW.block M hv.lt).trans hv
  have hv3 : Boxed (w2.setCell ⟨G, pre.length, none⟩ (.int .i64 (f x.2))) M 23 (.slice (some ⟨G, 0, none⟩) pre.length n) := HasBlk.far hv2 (show M ≠ G by omega) _
  have keepB : ∀ {b : Nat} {c : Array Value} {t : Nat}, HasBlk W b c t → b < G → HasBlk (((w2.setCell ⟨G, pre.length, none⟩ (.int .i64 (f x.2))).setCell ⟨M, 0, none⟩ (.slice (some ⟨G, 0, none⟩) (pre.length + 1) n)).alloc (.cells #[.int .i64 (f x.2)] 3)) b c t :=
    fun {b c t} q h => HasBlk.alloc (HasBlk.far (HasBlk.far ((hbW.block b (lt_of_some q)).trans q : HasBlk w2 b c t) (show b ≠ G by omega) _) (show b ≠ M by omega) _) _
  have hr3 := own_snoc (own_after hrow hb2) hlt (.int .i64 (f x.2))
  have hr4 := (ownsRow_setCell_ne hr3 (p := ⟨M, 0, none⟩) (by simp [Value.ownBlock]; omega) (.slice (some ⟨G, 0, none⟩) (pre.length + 1) n)).alloc (.cells #[.int .i64 (f x.2)] 3)
  refine ⟨(((k2.trans (KeepsOthers.setCell _ _ _)).trans (KeepsOthers.setCell _ _ _)).trans (KeepsOthers.alloc _ _)).from _, hb, ⟨⟨_, (hv3.set _).alloc _, ?_, ?_⟩, keepB q0 h0, keepB q1 h1, keepB q2 h2⟩, hB.trans hb⟩
  · rw [List.map_append, List.map_append, List.length_append]
    exact hr4
  · rw [List.length_append]; rfl

theorem lt_of_cell {W : World} {g k : Nat} {u : Value} (h : W.cell? ⟨g, k, none⟩ = some u) : g < W.heap.size := World.block_lt_of_cell? W _ h
theorem cell2_0 (x y : Value) : (#[x, y] : Array Value)[0]? = some x := rfl
theorem cell2_1 (x y : Value) : (#[x, y] : Array Value)[1]? = some y := rfl
theorem cell1_0 (x : Value) : (#[x] : Array Value)[0]? = some x := rfl
end Go.Proofs.YtijhpfecbpkpdaaDoor

/- It is proved what the reader's pick returns and writes; conditions: those of each statement. -/
namespace Go.Proofs.YtijhpfecbpkpdaaDoor
open Go.RowKit

/-- The reader lies in block R: its bytes, its place. -/
def Rd (W : World) (R : Nat) (b : Option Addr) (n cap p : Nat) : Prop := HasBlk W R #[.slice b n cap, .int .i64 (p : Int)] 93

/-- n bytes, below block B. -/
def Bys (W : World) (B : Nat) (b : Option Addr) (n : Nat) : Prop :=
  n = 0 ∨ ∃ g off, b = some ⟨g, off, none⟩ ∧ g < B ∧ ∀ j, j < n → ∃ z : Nat, z < 256 ∧ W.cell? ⟨g, off + j, none⟩ = some (.int .u8 (z : Int))

/-- What pick leaves: a number in its range; the reader one place on; nothing else has turned. -/
def Picked (w : World) (R : Nat) (b : Option Addr) (n cap p : Nat) (x : Int) (e : Ending) (w' : World) : Prop :=
  ∃ r : Int, e = .returned (.int .i64 r) ∧ 0 ≤ r ∧ (1 ≤ x → r < x) ∧ Rd w' R b n cap (p + 1) ∧ w.grownBy w' (some R)

theorem xor_i64_nat (a b : Nat) (ha : a < 4611686018427387904) (hb : b < 4611686018427387904) : bits .xor .i64 (a : Int) (b : Int) = ((a ^^^ b : Nat) : Int) := by
  have hx : a ^^^ b < 2 ^ 62 := Nat.xor_lt_two_pow (by omega) (by omega)
  have h1 : (BitVec.ofInt 64 (a : Int)).toNat = a := by
    rw [BitVec.ofInt_natCast, BitVec.toNat_ofNat]; exact Nat.mod_eq_of_lt (by omega)
  have h2 : (BitVec.ofInt 64 (b : Int)).toNat = b := by
    rw [BitVec.ofInt_natCast, BitVec.toNat_ofNat]; exact Nat.mod_eq_of_lt (by omega)
  show IntKind.i64.wrap ((BitVec.ofInt 64 (a : Int) ^^^ BitVec.ofInt 64 (b : Int)).toNat : Int) = _
  rw [BitVec.toNat_xor, h1, h2, IntKind.wrap_i64]
  omega

theorem picked_end {R : Nat} {b : Option Addr} {n cap p : Nat} {x : Int} {w : World} (hR : Rd w R b n cap p) (r : Int) (h0 : 0 ≤ r) (h1 : 1 ≤ x → r < x) :
    Picked w R b n cap p x (.returned (.int .i64 r)) (w.setCell ⟨R, 1, none⟩ (.int .i64 ((p : Int) + 1))) :=
  ⟨r, rfl, h0, h1, heap_setCell_same w R 1 _ 93 _ hR, only_setCell (p := ⟨R, 1, none⟩) (World.grownBy.refl w (some R)) rfl _⟩

theorem picked_drawn {R : Nat} {b : Option Addr} {n cap p : Nat} {x : Int} {w W : World} {e : Ending} (k : Nat) (h : Picked w R b n cap p x e W) : Picked w R b n cap p x e (W.drewN k) := by
  obtain ⟨r, h1, h2, h3, h4, h5⟩ := h
  exact ⟨r, h1, h2, h3, h4, ⟨h5.os, h5.tape, h5.output, h5.size, h5.block⟩⟩

set_option maxRecDepth 100000 in
set_option maxHeartbeats 2000000 in
theorem pick_any (R : Nat) (b : Option Addr) (n cap p : Nat) (x : Int) (w : World) (hR : Rd w R b n cap p) (hb : Bys w R b n) (hn : n ≤ 1048576) (hp : p ≤ 1000000) :
    Calls Tryd.prog 57 #[.pointer (some ⟨R, 0, none⟩), .int .i64 x] w (Picked w R b n cap p x) := by
  have d0 := blk_cell hR 0
  have d1 := blk_cell hR 1
  have f1 := blk_frozen hR 1
  simp only [cell2_0, cell2_1] at d0 d1
  have HR := Lib.hid hR
  clear hR
  by_cases h1 : x < 1
  · go_enter Tryd.func57, Tryd.ntmps57
    go_wp2
    go_ret
    exact picked_end HR.out 0 (by omega) (by omega)
  · by_cases hn0 : n = 0
    · subst hn0
      go_enter Tryd.func57, Tryd.ntmps57
      go_wp2
      go_ret
      exact picked_end HR.out 0 (by omega) (by omega)
    · by_cases hk : p < n
      · obtain ⟨g, off, rfl, hg, hc⟩ := hb.resolve_left hn0
        obtain ⟨z, hz, hcz⟩ := hc p hk
        have hcz' := (World.cell?_setCell_other w ⟨R, 1, none⟩ ⟨g, off + p, none⟩ (.int .i64 ((p : Int) + 1)) (fun e => by injection e; omega)).trans hcz
        go_enter Tryd.func57, Tryd.ntmps57
        go_wp2
        go_ret
        exact picked_end HR.out ((z : Int) % x) (Int.emod_nonneg _ (by omega)) (fun _ => Int.emod_lt_of_pos _ (by omega))
      · obtain ⟨g, off, rfl, hg, hc⟩ := hb.resolve_left hn0
        obtain ⟨i1, hi1⟩ : ∃ i1 : Nat, (p : Int) % (n : Int) = (i1 : Int) := ⟨p % n, by omega⟩
        obtain ⟨i2, hi2⟩ : ∃ i2 : Nat, ((p : Int) * 7 + 3) % (n : Int) = (i2 : Int) := ⟨(p * 7 + 3) % n, by push_cast; rfl⟩
        obtain ⟨q, hq⟩ : ∃ q : Nat, (p : Int) / (n : Int) = (q : Int) := ⟨p / n, by omega⟩
        have hj1 : i1 < n := by have h2 := Int.emod_lt_of_pos (p : Int) (b := (n : Int)) (by omega); omega
        have hj2 : i2 < n := by have h2 := Int.emod_lt_of_pos ((p : Int) * 7 + 3) (b := (n : Int)) (by omega); omega
        have hqp : q ≤ p := by have h2 := Int.ediv_le_self (n : Int) (show (0 : Int) ≤ (p : Int) by omega); omega
        obtain ⟨z1, hz1, hc1⟩ := hc i1 hj1
        obtain ⟨z2, hz2, hc2⟩ := hc i2 hj2
        have hc1' := (World.cell?_setCell_other w ⟨R, 1, none⟩ ⟨g, off + i1, none⟩ (.int .i64 ((p : Int) + 1)) (fun e => by injection e; omega)).trans hc1
        have hc2' := (World.cell?_setCell_other w ⟨R, 1, none⟩ ⟨g, off + i2, none⟩ (.int .i64 ((p : Int) + 1)) (fun e => by injection e; omega)).trans hc2
        have hpn : ¬ ((p : Int) < (n : Int)) := by omega
        have hn1 : (0 : Int) < (n : Int) := by omega
        clear hc
        go_enter Tryd.func57, Tryd.ntmps57
        go_wp2
        go_quiet (fail)
        obtain ⟨X, hX⟩ : ∃ X : Nat, (z1 : Int) * 131 + (z2 : Int) * 1117 + (p : Int) * 29 + (q : Int) * 53 = (X : Int) := ⟨z1 * 131 + z2 * 1117 + p * 29 + q * 53, by push_cast; rfl⟩
        have HXR : Hid (bits .xor .i64 (X : Int) ((X : Int) / 64) = ((X ^^^ (X / 64) : Nat) : Int)) := Lib.hid (by
          rw [show (X : Int) / 64 = ((X / 64 : Nat) : Int) from by omega]
          exact xor_i64_nat X (X / 64) (by omega) (by omega))
        rw [hX]
        have hX2 : (X : Int) ≤ 100000000 := by omega
        clear hX hi1 hi2 hq hc1 hc2 hc1' hc2'
        go_wp2
        go_ret
        refine picked_drawn nq ?_
        rw [HXR.out]
        exact picked_end HR.out _ (Int.tmod_nonneg _ (by omega)) (fun _ => Int.tmod_lt_of_pos _ (by omega))

end Go.Proofs.YtijhpfecbpkpdaaDoor

/- It is proved how lists of the call's own and boxed families read; conditions: the bounds in each statement. -/
namespace Go.Proofs.YtijhpfecbpkpdaaDoor
open Go.RowKit

theorem own_ints {w : World} {B : Nat} {a : Option Addr} {n cap : Nat} {zs : List Int} (h : OwnI w B (.slice a n cap) zs) : Ints w w.heap.size a zs := by
  rcases h.2 with ⟨h2, hn⟩ | ⟨g, c, cur, e, hb, hg, r⟩
  · exact .inl (List.eq_nil_of_length_eq_zero hn)
  · injection e with e1 e2 e3
    subst e1
    refine .inr ⟨g, 0, rfl, (Array.getElem?_eq_some_iff.1 hg).1, fun j hj => ?_⟩
    have h' : w.ownsRow B 3 1 (.slice (some ⟨g, 0, none⟩) zs.length c) zs.length (zs.map (Value.int .i64)) := ⟨h.1, .inr ⟨g, c, cur, rfl, hb, hg, r⟩⟩
    have := h'.cellAt j (by omega)
    simpa [hj] using this

theorem own_block {w : World} {B : Nat} {a : Option Addr} {n cap : Nat} {zs : List Int} (h : OwnI w B (.slice a n cap) zs) : ∀ x, a = some x → B ≤ x.block ∧ x.block < w.heap.size := by
  rintro x rfl
  exact World.ownsRow.lt h x.block rfl

theorem own_below {w w' : World} {B B' : Nat} {v : Value} {zs : List Int} (h : OwnI w B v zs) (hb : Below B' w w') (hB : w.heap.size ≤ B') : OwnI w' B v zs := by
  refine ⟨h.1, ?_⟩
  rcases h.2 with h2 | ⟨g, c, cur, e, hb', hg, r⟩
  · exact .inl h2
  · exact .inr ⟨g, c, cur, e, hb', (hb.block g (by have := (Array.getElem?_eq_some_iff.1 hg).1; omega)).trans hg, r⟩

theorem big_len {zs : List Int} (h : 1048576 < zs.length) : (1048576 : Int) < (zs.length : Int) := by omega
/-- The law's argument, boxed in the block that the law began with: it and its list read as they did. -/
structure AF (w : World) (m : Int) (a : Option Addr) (cap : Nat) (zs : List Int) (W : World) : Prop where
  x0 : W.cell? ⟨w.heap.size, 0, none⟩ = some (.int .i64 m)
  x1 : W.cell? ⟨w.heap.size, 1, none⟩ = some (.slice a zs.length cap)
  ints : Ints W w.heap.size a zs
  below : Below w.heap.size w W
  size : w.heap.size + 1 ≤ W.heap.size

theorem AF.step {w : World} {m : Int} {a : Option Addr} {cap : Nat} {zs : List Int} {W W' : World} (h : AF w m a cap zs W) (hb : Below W.heap.size W W') : AF w m a cap zs W' :=
  ⟨(hb.cell (p := ⟨w.heap.size, 0, none⟩) h.size).trans h.x0, (hb.cell (p := ⟨w.heap.size, 1, none⟩) h.size).trans h.x1, h.ints.below (hb.mono (by have := h.size; omega)),
    h.below.trans (hb.mono (by have := h.size; omega)), by have := h.size; have := hb.size; omega⟩

theorem AF.start (w : World) (m : Int) (a : Option Addr) (cap : Nat) (zs : List Int) (ha : Ints w w.heap.size a zs) : AF w m a cap zs (w.alloc (.cells #[.int .i64 m, .slice a zs.length cap] 41)) :=
  ⟨blk_cell (alloc_new w _) 0, blk_cell (alloc_new w _) 1, ha.below (below1 w _), below1 w _, by simp⟩

theorem AF.old {w : World} {m : Int} {a : Option Addr} {cap : Nat} {zs : List Int} {W : World} (h : AF w m a cap zs W) : Ints W W.heap.size a zs := h.ints.mono (by have := h.size; omega)
theorem AF.drew {w : World} {m : Int} {a : Option Addr} {cap : Nat} {zs : List Int} {W : World} (h : AF w m a cap zs W) : AF w m a cap zs W.drew := ⟨h.x0, h.x1, h.ints, h.below.drew, h.size⟩
/-- A family that the call holds in a box of its own: the box and its list read as they did. -/
structure XF (X : Nat) (m : Int) (a : Option Addr) (cap : Nat) (zs : List Int) (W : World) : Prop where
  x0 : W.cell? ⟨X, 0, none⟩ = some (.int .i64 m)
  x1 : W.cell? ⟨X, 1, none⟩ = some (.slice a zs.length cap)
  ints : Ints W W.heap.size a zs
  size : X < W.heap.size

theorem XF.step {X : Nat} {m : Int} {a : Option Addr} {cap : Nat} {zs : List Int} {W W' : World} (h : XF X m a cap zs W) (hb : Below W.heap.size W W') : XF X m a cap zs W' :=
  ⟨(hb.cell (p := ⟨X, 0, none⟩) h.size).trans h.x0, (hb.cell (p := ⟨X, 1, none⟩) h.size).trans h.x1, (h.ints.below hb).mono hb.size, by have := h.size; have := hb.size; omega⟩

theorem XF.start (w : World) (m : Int) (a : Option Addr) (cap : Nat) (zs : List Int) (ha : Ints w w.heap.size a zs) : XF w.heap.size m a cap zs (w.alloc (.cells #[.int .i64 m, .slice a zs.length cap] 25)) :=
  ⟨blk_cell (alloc_new w _) 0, blk_cell (alloc_new w _) 1, (ha.below (below1 w _)).mono (by simp), by simp⟩

theorem XF.drew {X : Nat} {m : Int} {a : Option Addr} {cap : Nat} {zs : List Int} {W : World} (h : XF X m a cap zs W) : XF X m a cap zs W.drew := ⟨h.x0, h.x1, h.ints, h.size⟩
theorem bool_neq_self (b : Bool) : (b != b) = false := by cases b <;> rfl
end Go.Proofs.YtijhpfecbpkpdaaDoor

/- It is proved how boxed families keep what they hold while the laws go on; conditions: those of each statement. -/
namespace Go.Proofs.YtijhpfecbpkpdaaDoor
open Go.RowKit

/-- What a function of a family and a bool returns: both, in new memory; nothing that lay has turned. -/
def RetFB (w : World) (m : Int) (zs : List Int) (ok : Bool) (e : Ending) (w' : World) : Prop :=
  ∃ a cap, e = .returned (.tuple #[.agg #[.int .i64 m, .slice a zs.length cap], .bool ok]) ∧ OwnI w' w.heap.size (.slice a zs.length cap) zs ∧ Below w.heap.size w w'

/-- A family in a box of the call's own: block X; its list lies in a block of lo, .., hi - 1, below X. -/
structure XB (X lo hi : Nat) (m : Int) (a : Option Addr) (n cap : Nat) (zs : List Int) (W : World) : Prop where
  x0 : W.cell? ⟨X, 0, none⟩ = some (.int .i64 m)
  x1 : W.cell? ⟨X, 1, none⟩ = some (.slice a n cap)
  own : OwnN W lo a n cap zs
  rng : ∀ g, (Value.slice a n cap).ownBlock = some g → lo ≤ g ∧ g < hi
  hiX : hi ≤ X
  size : X < W.heap.size

theorem XB.len {X lo hi : Nat} {m : Int} {a : Option Addr} {n cap : Nat} {zs : List Int} {W : World} (h : XB X lo hi m a n cap zs W) : zs.length = n := by
  have := h.own.1; simpa using this

theorem XB.ints {X lo hi : Nat} {m : Int} {a : Option Addr} {n cap : Nat} {zs : List Int} {W : World} (h : XB X lo hi m a n cap zs W) : Ints W W.heap.size a zs := by
  have h1 := h.own
  have hl := h.len
  subst hl
  exact own_ints (n := zs.length) (cap := cap) (B := lo) h1

/-- What keeps all blocks but row's keeps the box, if row's block is none of it. -/
theorem XB.kept {X lo hi : Nat} {m : Int} {a : Option Addr} {n cap : Nat} {zs : List Int} {W W' : World} {row : Option Nat} (h : XB X lo hi m a n cap zs W) (hg : W.grownBy W' row)
    (hr : ∀ g, row = some g → (g < lo ∨ hi ≤ g) ∧ g ≠ X) : XB X lo hi m a n cap zs W' := by
  have hX : ∀ o, W'.cell? ⟨X, o, none⟩ = W.cell? ⟨X, o, none⟩ := fun o =>
    World.cell?_of_block (a := ⟨X, o, none⟩) (hg.block X h.size (fun e => (hr X e.symm).2 rfl))
  refine ⟨(hX 0).trans h.x0, (hX 1).trans h.x1, World.ownsRow.kept h.own hg ?_, h.rng, h.hiX, Nat.lt_of_lt_of_le h.size hg.size⟩
  cases ho : (Value.slice a n cap).ownBlock with
  | none => exact .inl rfl
  | some g =>
    right
    intro e
    have h1 := h.rng g ho
    have h2 := hr g e.symm
    omega

theorem XB.step {X lo hi : Nat} {m : Int} {a : Option Addr} {n cap : Nat} {zs : List Int} {W W' : World} (h : XB X lo hi m a n cap zs W) (hb : Below W.heap.size W W') : XB X lo hi m a n cap zs W' :=
  h.kept (only_of_below hb none) (fun g e => by cases e)

theorem XB.drew {X lo hi : Nat} {m : Int} {a : Option Addr} {n cap : Nat} {zs : List Int} {W : World} (h : XB X lo hi m a n cap zs W) : XB X lo hi m a n cap zs W.drew :=
  ⟨h.x0, h.x1, h.own, h.rng, h.hiX, h.size⟩

/-- Its own list marked. -/
theorem XB.marked {X lo hi : Nat} {m : Int} {a : Option Addr} {n cap : Nat} {zs : List Int} {W W' : World} (h : XB X lo hi m a n cap zs W)
    (ho : OwnI W' lo (.slice a n cap) (marks n)) (hg : W.grownBy W' (Value.slice a n cap).ownBlock) : XB X lo hi m a n cap (marks n) W' := by
  have hX : ∀ o, W'.cell? ⟨X, o, none⟩ = W.cell? ⟨X, o, none⟩ := fun o =>
    World.cell?_of_block (a := ⟨X, o, none⟩) (hg.block X h.size (fun e => by have := h.rng X e.symm; have := h.hiX; omega))
  refine ⟨(hX 0).trans h.x0, (hX 1).trans h.x1, ?_, h.rng, h.hiX, Nat.lt_of_lt_of_le h.size hg.size⟩
  have := ho
  unfold OwnI at this
  rwa [marks_length] at this

/-- It begins: a list of the call's own, boxed. -/
theorem XB.start {w : World} {lo : Nat} {m : Int} {a : Option Addr} {cap : Nat} {zs : List Int} (ho : OwnI w lo (.slice a zs.length cap) zs) :
    XB w.heap.size lo w.heap.size m a zs.length cap zs (w.alloc (.cells #[.int .i64 m, .slice a zs.length cap] 25)) :=
  ⟨blk_cell (alloc_new w _) 0, blk_cell (alloc_new w _) 1, World.ownsRow.alloc ho _, fun g e => World.ownsRow.lt ho g e, Nat.le_refl _, by simp⟩

theorem XB.ownI {X lo hi : Nat} {m : Int} {a : Option Addr} {cap : Nat} {zs : List Int} {W : World} (h : XB X lo hi m a zs.length cap zs W) : OwnI W lo (.slice a zs.length cap) zs := h.own
theorem AF.kept {w : World} {m : Int} {a : Option Addr} {cap : Nat} {zs : List Int} {W W' : World} {row : Option Nat} (h : AF w m a cap zs W) (hg : W.grownBy W' row) (hr : ∀ g, row = some g → w.heap.size + 1 ≤ g) : AF w m a cap zs W' := by
  have hb : Below (w.heap.size + 1) W W' := (Below.refl _ _).grown hg h.size hr
  exact ⟨(hb.cell (p := ⟨w.heap.size, 0, none⟩) (by simp)).trans h.x0, (hb.cell (p := ⟨w.heap.size, 1, none⟩) (by simp)).trans h.x1, h.ints.below (hb.mono (by omega)),
    h.below.trans (hb.mono (by omega)), by have := h.size; have := hg.size; omega⟩

end Go.Proofs.YtijhpfecbpkpdaaDoor

/- It is proved what l1None, l1With and the model's FamilyMeet return; conditions: those of each statement. -/
namespace Go.Proofs.YtijhpfecbpkpdaaDoor
open Go.RowKit

theorem alloc2_0 (w : World) (o p : Obj) : ((w.alloc o).alloc p).heap[w.heap.size]? = some o := by rw [alloc_old _ _ _ (by simp), alloc_new]
theorem alloc2_1 (w : World) (o p : Obj) : ((w.alloc o).alloc p).heap[w.heap.size + 1]? = some p := by
  rw [show w.heap.size + 1 = (w.alloc o).heap.size from by simp, alloc_new]

/-- A new empty row. -/
theorem own_empty {w : World} {B g : Nat} (h : w.heap[g]? = some (.cells #[] 3 (0, 0))) (hB : B ≤ g) : OwnI w B (.slice (some ⟨g, 0, none⟩) 0 0) [] :=
  ⟨by simp, .inr ⟨g, 0, #[], rfl, hB, h, Nat.le_refl _, by simp [maxLen], by simp, by simp⟩⟩

set_option maxRecDepth 100000 in
set_option maxHeartbeats 400000 in
theorem l1None_any (w : World) : Calls Tryd.prog 75 #[] w (RetFB w 0 [] false) := by
  go_enter Tryd.func75, Tryd.ntmps75
  go_wp2
  refine bodyPost_ret (v := .tuple #[.agg #[.int .i64 0, .slice (some ⟨w.heap.size + 1, 0, none⟩) 0 0], .bool false]) (by simp [results, Tryd.results75, go_sem]) rfl ?_
  exact ⟨_, _, rfl, own_empty (alloc2_1 w _ _) (by omega), below2 _ _ _⟩

set_option maxRecDepth 100000 in
set_option maxHeartbeats 400000 in
theorem l1With_any (m : Int) (a b : Option Addr) (n c k d : Nat) (w : World) :
    Calls Tryd.prog 85 #[.agg #[.int .i64 m, .slice a n c], .slice b k d] w fun e w' => e = .returned (.agg #[.int .i64 m, .slice b k d]) ∧ Below w.heap.size w w' := by
  go_enter Tryd.func85, Tryd.ntmps85
  go_wp2
  refine bodyPost_ret (v := .agg #[.int .i64 m, .slice b k d]) (by simp [results, Tryd.results85, go_sem]) rfl ?_
  exact ⟨rfl, below2 _ _ _⟩

theorem map_at (f : Int → Int) (zs : List Int) (k : Nat) (h : k < zs.length) : (zs.take (k + 1)).map f = (zs.take k).map f ++ [f (zs[k]?.getD 0)] := by
  rw [List.take_succ_eq_append_getElem h, List.map_append]; simp [h]

/-- What a function that maps the clubs comes to. -/
def famMap (c : Bool) (m : Int) (f : Int → Int) (zs : List Int) : List Int := if c then zs.map f else []

def famM (c : Bool) (m : Int) : Int := if c then m else 0
theorem OwnI.form {w : World} {B : Nat} {v : Value} {zs : List Int} (h : OwnI w B v zs) (hn : 0 < zs.length) : ∃ g cap, v = .slice (some ⟨g, 0, none⟩) zs.length cap ∧ B ≤ g ∧ g < w.heap.size := World.ownsRow.form h hn
end Go.Proofs.YtijhpfecbpkpdaaDoor

/- It is proved what the iterator over a family's clubs yields; conditions: those of each statement. -/
namespace Go.Proofs.YtijhpfecbpkpdaaDoor
open Go.RowKit Go.Shelf

attribute [local go_sem] Oper.semAt_some

/-- The first k places with the clubs there. -/
def pairs (zs : List Int) (k : Nat) : List (Nat × Int) := (List.range k).map fun j => (j, zs[j]?.getD 0)

theorem pairs_succ (zs : List Int) (k : Nat) : pairs zs (k + 1) = pairs zs k ++ [(k, zs[k]?.getD 0)] := by simp [pairs, List.range_succ]
theorem pairs_succ' (zs : List Int) (k : Nat) (h : k < zs.length) : pairs zs (k + 1) = pairs zs k ++ [(k, zs[k])] := by rw [pairs_succ]; simp [h]
theorem pairs_length (zs : List Int) (k : Nat) : (pairs zs k).length = k := by simp [pairs]
theorem pairs_snd (zs : List Int) (k : Nat) (h : k ≤ zs.length) : (pairs zs k).map (·.2) = zs.take k := by
  apply List.ext_getElem
  · simp [pairs, h]
  · intro i h1 h2
    have : i < zs.length := by simp [pairs] at h1; omega
    simp [pairs, this]

theorem pairs_all (zs : List Int) : (pairs zs zs.length).map (·.2) = zs := by rw [pairs_snd zs _ (Nat.le_refl _), List.take_length]
set_option maxRecDepth 100000 in
set_option maxHeartbeats 2000000 in
theorem clubs1_in (n : Nat) (hn : 1 ≤ n) (l Bs n₀ : Nat) (a : Option Addr) (c : Nat) (zs : List Int) (hlen : zs.length ≤ 1048576) (J Jx : List (Nat × Int) → World → Prop)
    (hY : ∀ pre x W, J pre W → pre.length < zs.length → YieldAt Fence.wide (n - 1) Tryd.prog l #[.int .i64 (x.1 : Int), .int .i64 x.2] W fun e W' =>
      (e = .returned (.bool true) ∧ J (pre ++ [x]) W' ∧ Below n₀ W W') ∨ (e = .returned (.bool false) ∧ Jx (pre ++ [x]) W'))
    (W : World) (hBs : W.cell? ⟨Bs, 1, none⟩ = some (.slice a zs.length c)) (hI : Ints W n₀ a zs) (h0 : J [] W) :
    CallsIn Fence.wide n Tryd.prog 91 #[.func (.yield l) #[] #[], .pointer (some ⟨Bs, 0, none⟩)] W fun e W' => (∃ v, e = .returned v) ∧
      ((∃ ys, ys = pairs zs zs.length ∧ J ys W') ∨ (∃ pre, (∃ k, k ≤ zs.length ∧ pre = pairs zs k) ∧ Jx pre W')) := by
  refine callsIn_of_wp Tryd.func91 rfl trivial ?_ rfl
  simp only [Tryd.ntmps91, List.size_toArray, List.length_cons, List.length_nil, Nat.reduceAdd, Nat.reduceSub, Array.replicate_succ, Array.replicate_zero, List.push_toArray, List.append_toArray, List.nil_append, List.cons_append]
  gi_wp2
  gi_loopw [8] (fun i wr => ∃ k : Nat, k ≤ zs.length ∧ i = .int .i64 k ∧ J (pairs zs k) wr ∧ Below n₀ W wr)
    (fun i _ => zs.length - (intOf i).toNat)
  case atStart => exact ⟨0, Nat.zero_le _, rfl, h0, Below.refl _ _⟩
  case round =>
    obtain ⟨k, hk, rfl, hJs, hnx⟩ := hrel
    by_cases hlt : k < zs.length
    · obtain ⟨b, off, rfl, hb, hc⟩ := hI.at_ hlt
      have hcx' : wr.cell? ⟨b, off + k, none⟩ = some (.int .i64 (zs[k]?.getD 0)) := (hnx.cell (p := ⟨b, off + k, none⟩) hb).trans hc
      obtain ⟨fn, tmps, assign, body, hy, hR⟩ := hY _ (k, zs[k]) wr hJs (by rw [pairs_length]; exact hlt)
      dsimp only at hy
      gi_wp2
      refine hR.mono ?_
      rintro e W3 (⟨rfl, hJ3, hk3⟩ | ⟨rfl, hJx3⟩)
      · gi_wp2
        go_roundw
        case rel => exact ⟨k + 1, by omega, by simp, by rw [pairs_succ' zs k hlt]; exact hJ3, hnx.trans hk3⟩
        case measure => simp [intOf]; omega
      · gi_wp2
        refine bodyPost_ret (results_none rfl _ _ _) rfl ?_
        exact ⟨⟨_, rfl⟩, .inr ⟨_, ⟨k + 1, by omega, (pairs_succ' zs k hlt).symm⟩, hJx3⟩⟩
    · obtain rfl : k = zs.length := by omega
      gi_wp2
      go_end0
      exact ⟨⟨_, rfl⟩, .inl ⟨_, rfl, hJs⟩⟩

/-- f.clubs(): the family is boxed; the function value holds the box. -/
theorem clubs_any (m : Int) (a : Option Addr) (n c : Nat) (w : World) :
    Calls Tryd.prog 61 #[.agg #[.int .i64 m, .slice a n c]] w fun e w' => e = .returned (.func (.func 91) #[] #[.pointer (some ⟨w.heap.size, 0, none⟩)]) ∧ w' = w.alloc (.cells #[.int .i64 m, .slice a n c] 25) := by
  have hmf : ∀ (fn : Fn) (first cap : Array Value) (w : World), (Instr.makeFunc fn first cap).run Tryd.prog w = .ok (.func fn first cap) w := fun _ _ _ _ => rfl
  go_enter Tryd.func61, Tryd.ntmps61
  go_wp2
  go_ret
  exact ⟨rfl, rfl⟩

theorem clubs_stops (n : Nat) (hn : 1 ≤ n) (Bs n₀ : Nat) (a : Option Addr) (c : Nat) (zs : List Int) (hlen : zs.length ≤ 1048576) (w : World) (hBs : Bs < w.heap.size) (hn₀ : n₀ ≤ w.heap.size)
    (hc : w.cell? ⟨Bs, 1, none⟩ = some (.slice a zs.length c)) (hI : Ints w n₀ a zs) :
    SeqStopsK Fence.wide n Tryd.prog 91 #[.pointer (some ⟨Bs, 0, none⟩)] (fun x : Nat × Int => #[Value.int .i64 (x.1 : Int), Value.int .i64 x.2]) (Below n₀) (fun ys => ys = pairs zs zs.length)
      (fun pre => ∃ k, k ≤ zs.length ∧ pre = pairs zs k) zs.length w := fun l J Jx W hW _ _ hY h0 =>
  clubs1_in n hn l Bs n₀ a c zs hlen J Jx hY W ((hW.cell (p := ⟨Bs, 1, none⟩) hBs).trans hc) (hI.below (hW.mono hn₀)) h0

end Go.Proofs.YtijhpfecbpkpdaaDoor
