/- It is proved what szIntS, szFamily and toIntS return; conditions: the bounds in each statement. -/
import Derived.Test.YtacglafoahmcnaaDoorRows
import Derived.WalkKit
import Derived.WalkSpells
import Derived.ProofKit
import Derived.OpenShut
import Derived.ShutString
import Derived.ChangeOld
import Derived.Below
import Derived.Deep.RegionHeld3
import Derived.Deep.QuietTactic
import Derived.BigQuiet
import Derived.Lib.Hide
import Derived.Lib.SmallJoins
import Derived.Outline
import Derived.Laws.MakeOwn
import Derived.Laws.OwnMore
import Derived.IntWalk
namespace Go.Proofs.YtacglafoahmcnaaDoor
open Go.RowKit

/-- What a slice value's address holds: the ints zs, in a block below B (where there is an int). -/
def Ints (w : World) (B : Nat) (a : Option Addr) (zs : List Int) : Prop :=
  zs = [] ∨ ∃ b off, a = some ⟨b, off, none⟩ ∧ b < B ∧ ∀ j, j < zs.length → w.cell? ⟨b, off + j, none⟩ = some (.int .i64 (zs[j]?.getD 0))

theorem Ints.below {w w' : World} {B : Nat} {a : Option Addr} {zs : List Int} (h : Ints w B a zs) (hb : Below B w w') : Ints w' B a zs := by
  rcases h with h | ⟨b, off, e, hB, hc⟩
  · exact .inl h
  · exact .inr ⟨b, off, e, hB, fun j hj => (hb.cell (p := ⟨b, off + j, none⟩) hB).trans (hc j hj)⟩

theorem Ints.mono {w : World} {B B' : Nat} {a : Option Addr} {zs : List Int} (h : Ints w B a zs) (hB : B ≤ B') : Ints w B' a zs := by
  rcases h with h | ⟨b, off, e, hb, hc⟩
  · exact .inl h
  · exact .inr ⟨b, off, e, by omega, hc⟩

theorem szIntS_any (a : Option Addr) (n cap : Nat) (k : Int) (w : World) (hn : n ≤ 9223372036854775807) (hk0 : 0 ≤ k) (hk : k ≤ 1048576) :
    Calls Tryd.prog 86 #[.slice a n cap, .int .i64 k] w fun e w' => e = .returned (.int .i64 (if k < n then -1 else k - n)) ∧ w = w' := by
  by_cases h : k < (n : Int)
  · go_enter Tryd.func86, Tryd.ntmps86
    go_wp2
    go_ret
    exact ⟨by simp, rfl⟩
  · go_enter Tryd.func86, Tryd.ntmps86
    go_wp2
    go_ret
    exact ⟨by simp, rfl⟩

theorem szFamily_any (a : Option Addr) (n cap : Nat) (m k : Int) (w : World) (hn : n ≤ 9223372036854775807) (hk0 : 0 ≤ k) (hk : k ≤ 1048576) :
    Calls Tryd.prog 39 #[.agg #[.int .i64 m, .slice a n cap], .int .i64 k] w fun e w' => e = .returned (.int .i64 (if k < n then -1 else k - n)) ∧ Below w.heap.size w w' := by
  by_cases h : k < (n : Int)
  · go_enter Tryd.func39, Tryd.ntmps39
    go_wp2_with (go_at_call 86; refine (szIntS_any _ _ _ _ _ hn hk0 hk).mono ?_; rintro e w' ⟨rfl, rfl⟩; rw [if_pos h])
    go_ret
    exact ⟨by simp, (Below.refl _ _).alloc (Nat.le_refl _) _⟩
  · go_enter Tryd.func39, Tryd.ntmps39
    go_wp2_with (go_at_call 86; refine (szIntS_any _ _ _ _ _ hn hk0 hk).mono ?_; rintro e w' ⟨rfl, rfl⟩; rw [if_neg h])
    go_ret
    exact ⟨by simp, (Below.refl _ _).alloc (Nat.le_refl _) _⟩

/-- A slice value of the call's own: it owns the ints zs, in a block from B on (or it is nil and zs is empty). -/
def OwnI (w : World) (B : Nat) (v : Value) (zs : List Int) : Prop := w.ownsRow B 3 1 v zs.length (zs.map (Value.int .i64))

theorem Tryd.info3 : (Tryd.prog.info? 3).map (fun i => (i.zero, i.size, i.bytes)) = some (some (.int .i64 0), 1, 8) := by kernel_rfl
def RetInts (w : World) (zs : List Int) (e : Ending) (w' : World) : Prop :=
  ∃ a cap, e = .returned (.slice a zs.length cap) ∧ OwnI w' w.heap.size (.slice a zs.length cap) zs ∧ Below w.heap.size w w'

theorem copied_start (zs : List Int) : (madeCells (Value.int .i64 0).cells (zs.length * 1)).toList = (List.replicate zs.length (0 : Int)).map (Value.int .i64) := by
  rw [show (Value.int .i64 0).cells = #[Value.int .i64 0] from rfl, toList_madeCells_one]; simp

theorem copied_step (zs : List Int) (k : Nat) (h : k < zs.length) :
    ((zs.take k ++ List.replicate (zs.length - k) 0).map (Value.int .i64)).set k (.int .i64 (zs[k]?.getD 0)) = (zs.take (k + 1) ++ List.replicate (zs.length - (k + 1)) 0).map (Value.int .i64) := by
  rw [← List.map_set]
  congr 1
  have hl : (zs.take k).length = k := by rw [List.length_take]; omega
  rw [List.set_append_right _ _ (by omega), hl, Nat.sub_self]
  rw [show zs.length - k = (zs.length - (k + 1)) + 1 from by omega, List.replicate_succ, List.set_cons_zero]
  rw [List.take_succ_eq_append_getElem h, List.append_assoc]
  simp [h]

theorem copied_at (zs : List Int) (n k : Nat) (hn : n ≤ zs.length) (h : k < n) :
    ((zs.take k ++ List.replicate (n - k) 0).map (Value.int .i64))[k]? = some (.int .i64 0) := by
  have hl : (zs.take k).length = k := by rw [List.length_take]; omega
  rw [List.getElem?_map, List.getElem?_append_right (by omega), hl, Nat.sub_self, List.getElem?_replicate, if_pos (by omega)]; rfl

set_option maxRecDepth 100000 in
set_option maxHeartbeats 400000 in
theorem toIntS_any (a : Option Addr) (cap : Nat) (zs : List Int) (w : World) (hz : Ints w w.heap.size a zs) (hn : zs.length ≤ 1048576) :
    Calls Tryd.prog 87 #[.slice a zs.length cap] w (RetInts w zs) := by
  obtain ⟨i0, hi0, hz0, hz1, hz2⟩ := info_parts Tryd.info3
  obtain ⟨n, hn'⟩ : ∃ n, n = zs.length := ⟨_, rfl⟩
  have HN : Hid (n = zs.length) := Lib.hid hn'
  have hnz : n ≤ zs.length := by omega
  have hzn : zs.length ≤ n := by omega
  rw [← hn']
  rw [← hn'] at hn
  clear hn'
  go_enter Tryd.func87, Tryd.ntmps87
  go_wp2_with (refine wpList_make_full _ rfl _ _ 23 rfl w.heap.size 3 i0 _ 1 Tryd.underlying23 hi0 hz0 hz1 .i64 .i64 _ _ n rfl rfl rfl rfl (by rw [hz2]; omega) (by simp only [maxLen]; omega) (Nat.le_refl _) ?_; intro w1 hown hg)
  have HO : Hid (w1.ownsRow w.heap.size 3 1 (.slice (some ⟨w.heap.size, 0, none⟩) n n) n ((zs.take 0 ++ List.replicate (n - 0) 0).map (Value.int .i64))) := by
    rw [HN.out, copied_start] at hown
    rw [HN.out]
    exact (by simpa using hown : w1.ownsRow w.heap.size 3 1 (.slice (some ⟨w.heap.size, 0, none⟩) zs.length zs.length) zs.length ((zs.take 0 ++ List.replicate (zs.length - 0) 0).map (Value.int .i64)))
  clear hown
  have hB1 : Below w.heap.size w w1 := (Below.refl _ _).grown hg (Nat.le_refl _) (by simp)
  clear hg
  go_loopw [4] (fun i wr => ∃ k : Nat, k ≤ n ∧ i = .int .i64 k ∧ wr.ownsRow w.heap.size 3 1 (.slice (some ⟨w.heap.size, 0, none⟩) n n) n ((zs.take k ++ List.replicate (n - k) 0).map (Value.int .i64)) ∧ Below w.heap.size w wr) (fun i _ => n - (intOf i).toNat)
  case atStart => exact ⟨0, Nat.zero_le _, rfl, HO.out, hB1⟩
  case round =>
    obtain ⟨k, hk, rfl, ho, hb⟩ := hrel
    by_cases hlt : k < n
    · obtain ⟨b, off, rfl, hbb, hc⟩ : ∃ b off, a = some ⟨b, off, none⟩ ∧ b < w.heap.size ∧ ∀ j, j < zs.length → w.cell? ⟨b, off + j, none⟩ = some (.int .i64 (zs[j]?.getD 0)) := by
        rcases hz with h | h
        · subst h; simp at hnz; omega
        · exact h
      have hck : wr.cell? ⟨b, off + k, none⟩ = some (.int .i64 (zs[k]?.getD 0)) := (hb.cell (p := ⟨b, off + k, none⟩) hbb).trans (hc k (by omega))
      have hcs : wr.cell? ⟨w.heap.size, k, none⟩ = some (.int .i64 0) := by
        rw [ho.cellAt k (by omega)]; exact copied_at zs n k (by omega) hlt
      have hfz := ho.frozenAt k
      have HS := Lib.hid (ho.stored k (.int .i64 (zs[k]?.getD 0)))
      have HB := Lib.hid hb
      clear hc ho hb
      go_wp2
      go_roundw
      case rel => exact ⟨k + 1, by omega, by go_num, by have h1 := HS.out.1; rw [HN.out, copied_step zs k (by omega)] at h1; rw [HN.out]; exact h1, HB.out.setCell (p := ⟨w.heap.size, k, none⟩) (Nat.le_refl _) _⟩
      case measure => simp [intOf]; omega
    · obtain rfl : k = n := by omega
      have HD : Hid (RetInts w zs (.returned (.slice (some ⟨w.heap.size, 0, none⟩) k k)) wr) := by
        refine ⟨_, _, by rw [HN.out], ?_, hb⟩
        rw [HN.out, Nat.sub_self, List.replicate_zero, List.append_nil, List.take_length] at ho
        exact ho
      clear ho hb
      go_wp2
      go_ret
      exact HD.out

end Go.Proofs.YtacglafoahmcnaaDoor

/- It is proved what toFamily returns; conditions: the bounds in each statement. -/
namespace Go.Proofs.YtacglafoahmcnaaDoor
open Go.RowKit

theorem own_mono {w : World} {B B' : Nat} {v : Value} {zs : List Int} (h : OwnI w B v zs) (hB : B' ≤ B) : OwnI w B' v zs := by
  refine ⟨h.1, ?_⟩
  rcases h.2 with h2 | ⟨g, cap, cur, e, hb, r⟩
  · exact .inl h2
  · exact .inr ⟨g, cap, cur, e, by omega, r⟩

theorem blk_cell {w : World} {g : Nat} {t : TypeId} {cs : Array Value} (h : w.heap[g]? = some (.cells cs t (0, 0))) (i : Nat) : w.cell? ⟨g, i, none⟩ = cs[i]? := cell_of_row w g i cs t (0, 0) h
theorem blk_frozen {w : World} {g : Nat} {t : TypeId} {cs : Array Value} (h : w.heap[g]? = some (.cells cs t (0, 0))) (i : Nat) : w.frozen? ⟨g, i, none⟩ = false := by simp [World.frozen?, h]
theorem alloc_new (w : World) (o : Obj) : (w.alloc o).heap[w.heap.size]? = some o := heap_alloc_new w o
theorem alloc_old (w : World) (o : Obj) (k : Nat) (h : k < w.heap.size) : (w.alloc o).heap[k]? = w.heap[k]? := Below.heap_alloc w o k h
theorem alloc3_0 (w : World) (o p q : Obj) : (((w.alloc o).alloc p).alloc q).heap[w.heap.size]? = some o := by
  rw [alloc_old _ _ _ (by simp; omega), alloc_old _ _ _ (by simp), alloc_new]

theorem alloc3_1 (w : World) (o p q : Obj) : (((w.alloc o).alloc p).alloc q).heap[w.heap.size + 1]? = some p := by
  rw [alloc_old _ _ _ (by simp), show w.heap.size + 1 = (w.alloc o).heap.size from by simp, alloc_new]

theorem alloc3_2 (w : World) (o p q : Obj) : (((w.alloc o).alloc p).alloc q).heap[w.heap.size + 1 + 1]? = some q := by
  rw [show w.heap.size + 1 + 1 = ((w.alloc o).alloc p).heap.size from by simp, alloc_new]

theorem below3 (w : World) (o p q : Obj) : Below w.heap.size w (((w.alloc o).alloc p).alloc q) :=
  ((((Below.refl _ w).alloc (Nat.le_refl _) o).alloc (by simp) p).alloc (by simp; omega) q)

def RetFam (w : World) (m : Int) (zs : List Int) (e : Ending) (w' : World) : Prop :=
  ∃ a cap, e = .returned (.agg #[.int .i64 m, .slice a zs.length cap]) ∧ OwnI w' w.heap.size (.slice a zs.length cap) zs ∧ Below w.heap.size w w'

set_option maxRecDepth 100000 in
set_option maxHeartbeats 400000 in
theorem toFamily_any (m : Int) (a : Option Addr) (cap : Nat) (zs : List Int) (w : World) (hz : Ints w w.heap.size a zs) (hn : zs.length ≤ 1048576) :
    Calls Tryd.prog 40 #[.agg #[.int .i64 m, .slice a zs.length cap]] w (RetFam w m zs) := by
  obtain ⟨n, hn'⟩ : ∃ n, n = zs.length := ⟨_, rfl⟩
  have HN : Hid (n = zs.length) := Lib.hid hn'
  rw [← hn']
  clear hn'
  have HZ := Lib.hid hz
  have HL := Lib.hid hn
  clear hz hn
  go_enter Tryd.func40, Tryd.ntmps40
  go_wp2_with fail
  rw [HN.out]
  have HB := Lib.hid (below3 w (.cells #[.int .i64 m, .slice a zs.length cap] 41) (.cells #[.int .i64 0, .slice none 0 0] 25) (.cells #[.int .i64 m, .slice none 0 0] 25))
  refine (toIntS_any _ _ zs _ ((HZ.out.below HB.out).mono (by simp; omega)) HL.out).mono ?_
  rintro e w1 ⟨a1, c1, rfl, hown, hb⟩
  have b1 : w1.heap[w.heap.size + 1]? = some (.cells #[.int .i64 0, .slice none 0 0] 25 (0, 0)) := (hb.block _ (by simp)).trans (alloc3_1 w _ _ _)
  have b2 : w1.heap[w.heap.size + 1 + 1]? = some (.cells #[.int .i64 m, .slice none 0 0] 25 (0, 0)) := (hb.block _ (by simp)).trans (alloc3_2 w _ _ _)
  have hsz : w.heap.size + 1 + 1 < w1.heap.size := by have := hb.size; simp at this; omega
  have d0 := blk_cell b1 0
  have d1 := blk_cell b1 1
  have e0 := blk_cell b2 0
  have e1 := blk_cell b2 1
  have f0 := blk_frozen b1 0
  have f1 := blk_frozen b1 1
  have g1 := blk_frozen b2 1
  simp only [Array.getElem?_eq_getElem, List.size_toArray, List.length_cons, List.length_nil, Nat.reduceAdd, Nat.reduceLT, List.getElem_toArray, List.getElem_cons_zero, List.getElem_cons_succ] at d0 d1 e0 e1
  have HH := Lib.hid hb
  have HO := Lib.hid hown
  clear hb hown b1 b2
  go_wp2
  refine bodyPost_ret (v := .agg #[.int .i64 m, .slice a1 zs.length c1]) (by simp [results, Tryd.results40, go_sem, d0, d1]) rfl ?_
  refine ⟨a1, c1, rfl, ?_, ?_⟩
  · exact own_mono (ownsRow_setCell_below (ownsRow_setCell_below (ownsRow_setCell_below HO.out (by simp) _) (by simp) _) (by simp) _) (by simp; omega)
  · exact (((HB.out.trans (HH.out.mono (by simp; omega))).setCell (p := ⟨w.heap.size + 1 + 1, 1, none⟩) (by simp; omega) _).setCell (p := ⟨w.heap.size + 1, 0, none⟩) (by simp) _).setCell (p := ⟨w.heap.size + 1, 1, none⟩) (by simp) _

end Go.Proofs.YtacglafoahmcnaaDoor

/- It is proved what eqIntS returns; conditions: the bounds in each statement. -/
namespace Go.Proofs.YtacglafoahmcnaaDoor
open Go.RowKit

theorem Ints.at_ {w : World} {B : Nat} {a : Option Addr} {zs : List Int} (h : Ints w B a zs) {k : Nat} (hk : k < zs.length) :
    ∃ b off, a = some ⟨b, off, none⟩ ∧ b < B ∧ w.cell? ⟨b, off + k, none⟩ = some (.int .i64 (zs[k]?.getD 0)) := by
  rcases h with h | ⟨b, off, e, hb, hc⟩
  · subst h; simp at hk
  · exact ⟨b, off, e, hb, hc k hk⟩

theorem below_drewN {B : Nat} {a w : World} (h : Below B a w) (n : Nat) : Below B a (w.drewN n) := ⟨h.os, h.tape, h.output, h.size, h.block⟩
theorem eqs_false {xs ys : List Int} {k : Nat} (_hx : k < xs.length) (hy : k < ys.length) (h : xs[k]?.getD 0 ≠ ys[k]?.getD 0) : decide (xs = ys) = false := by
  simp only [decide_eq_false_iff_not]; rintro rfl; exact h rfl

theorem eqs_true {xs ys : List Int} (hl : xs.length = ys.length) (h : ∀ j, j < xs.length → xs[j]?.getD 0 = ys[j]?.getD 0) : decide (xs = ys) = true := by
  simp only [decide_eq_true_eq]
  apply List.ext_getElem hl
  intro i h1 h2
  have := h i h1
  simpa [h1, h2] using this

/-- Two lists are the same: a plain name, so that the walk does not take it apart. -/
def sameB (xs ys : List Int) : Bool := decide (xs = ys)

set_option maxRecDepth 100000 in
set_option maxHeartbeats 400000 in
theorem eqIntS_any (a b : Option Addr) (ca cb : Nat) (xs ys : List Int) (w : World) (ha : Ints w w.heap.size a xs) (hb : Ints w w.heap.size b ys) (hx : xs.length ≤ 1048576) (hy : ys.length ≤ 1048576) :
    Calls Tryd.prog 41 #[.slice a xs.length ca, .slice b ys.length cb] w fun e w' => e = .returned (.bool (sameB xs ys)) ∧ Below w.heap.size w w' := by
  by_cases hl : xs.length = ys.length
  · obtain ⟨n, hn⟩ : ∃ n, n = xs.length := ⟨_, rfl⟩
    have HN : Hid (n = xs.length) := Lib.hid hn
    have HM : Hid (n = ys.length) := Lib.hid (hn.trans hl)
    rw [← hl, ← hn]
    rw [← hn] at hx
    clear hl hn hy
    go_enter Tryd.func41, Tryd.ntmps41
    go_wp2
    go_loopw [5] (fun i wr => ∃ k : Nat, k ≤ n ∧ i = .int .i64 k ∧ (∀ j, j < k → xs[j]?.getD 0 = ys[j]?.getD 0) ∧ Below w.heap.size w wr) (fun i _ => n - (intOf i).toNat)
    case atStart => exact ⟨0, Nat.zero_le _, rfl, fun j hj => by omega, Below.refl _ _⟩
    case round =>
      obtain ⟨k, hk, rfl, he, hB⟩ := hrel
      by_cases hlt : k < n
      · obtain ⟨b1, o1, rfl, hb1, hc1⟩ := ha.at_ (k := k) (by rw [← HN.out]; exact hlt)
        obtain ⟨b2, o2, rfl, hb2, hc2⟩ := hb.at_ (k := k) (by rw [← HM.out]; exact hlt)
        have hk0 : (0 : Int) ≤ (k : Int) := by omega
        have hk1 : (k : Int) < (n : Int) := by omega
        have c1 := (hB.cell (p := ⟨b1, o1 + k, none⟩) hb1).trans hc1
        have c2 := (hB.cell (p := ⟨b2, o2 + k, none⟩) hb2).trans hc2
        have HB := Lib.hid hB
        have HE := Lib.hid he
        clear hc1 hc2 hB he
        by_cases hq : xs[k]?.getD 0 = ys[k]?.getD 0
        · have hbn : (xs[k]?.getD 0 != ys[k]?.getD 0) = false := by rw [hq]; simp
          have HQ := Lib.hid hq
          clear hq
          go_wp2
          go_quiet (fail)
          go_wp2
          go_roundw
          case rel => exact ⟨k + 1, by omega, by go_num, fun j hj => by
            rcases Nat.lt_succ_iff_lt_or_eq.1 hj with h | rfl
            · exact HE.out j h
            · exact HQ.out, below_drewN HB.out _⟩
          case measure => simp [intOf]; omega
        · have hbn : (xs[k]?.getD 0 != ys[k]?.getD 0) = true := by rw [bne_iff_ne]; exact hq
          have HQ : Hid (sameB xs ys = false) := Lib.hid (by unfold sameB; exact eqs_false (by rw [← HN.out]; exact hlt) (by rw [← HM.out]; exact hlt) hq)
          clear hq
          go_wp2
          go_quiet (fail)
          go_wp2
          go_ret
          exact ⟨by rw [HQ.out]; rfl, below_drewN HB.out _⟩
      · obtain rfl : k = n := by omega
        have HQ : Hid (sameB xs ys = true) := Lib.hid (by unfold sameB; exact eqs_true (by rw [← HN.out, ← HM.out]) (by rw [← HN.out]; exact he))
        have HB := Lib.hid hB
        clear he hB
        go_wp2
        go_ret
        exact ⟨by rw [HQ.out]; rfl, HB.out⟩
  · have hd : sameB xs ys = false := by unfold sameB; simp only [decide_eq_false_iff_not]; rintro rfl; exact hl rfl
    have hne : ((xs.length : Int) == (ys.length : Int)) = false := by simp; omega
    have hne' : ((xs.length : Int) != (ys.length : Int)) = true := by simp; omega
    rw [hd]
    go_enter Tryd.func41, Tryd.ntmps41
    go_wp2
    go_ret
    exact ⟨rfl, Below.refl _ _⟩

end Go.Proofs.YtacglafoahmcnaaDoor
