/- It is proved what toFamily returns; conditions: the bounds in each statement. -/
import Derived.Test.YtlfbpaphjkbcmaaRows
import Derived.WalkKit
import Derived.WalkSpells
import Derived.ProofKit
import Derived.OpenShut
import Derived.ShutString
import Derived.ChangeOld
import Derived.Below
import Derived.Deep.RegionHeld3
import Derived.Deep.QuietTactic
import Derived.BigQuiet
import Derived.Lib.Hide
import Derived.Lib.SmallJoins
import Derived.Outline
import Derived.Laws.MakeOwn
import Derived.Laws.OwnMore
import Derived.IntWalk
import Derived.Test.YtlfbpaphjkbcmaaB
namespace Go.Proofs.Ytlfbpaphjkbcmaa
open Go.RowKit

theorem own_mono {w : World} {B B' : Nat} {v : Value} {zs : List Int} (h : OwnI w B v zs) (hB : B' ≤ B) : OwnI w B' v zs := by
  refine ⟨h.1, ?_⟩
  rcases h.2 with h2 | ⟨g, cap, cur, e, hb, r⟩
  · exact .inl h2
  · exact .inr ⟨g, cap, cur, e, by omega, r⟩

theorem blk_cell {w : World} {g : Nat} {t : TypeId} {cs : Array Value} (h : w.heap[g]? = some (.cells cs t (0, 0))) (i : Nat) : w.cell? ⟨g, i, none⟩ = cs[i]? := cell_of_row w g i cs t (0, 0) h
theorem blk_frozen {w : World} {g : Nat} {t : TypeId} {cs : Array Value} (h : w.heap[g]? = some (.cells cs t (0, 0))) (i : Nat) : w.frozen? ⟨g, i, none⟩ = false := by simp [World.frozen?, h]
theorem alloc_new (w : World) (o : Obj) : (w.alloc o).heap[w.heap.size]? = some o := heap_alloc_new w o
theorem alloc_old (w : World) (o : Obj) (k : Nat) (h : k < w.heap.size) : (w.alloc o).heap[k]? = w.heap[k]? := Below.heap_alloc w o k h
theorem alloc3_0 (w : World) (o p q : Obj) : (((w.alloc o).alloc p).alloc q).heap[w.heap.size]? = some o := by
  rw [alloc_old _ _ _ (by simp; omega), alloc_old _ _ _ (by simp), alloc_new]

theorem alloc3_1 (w : World) (o p q : Obj) : (((w.alloc o).alloc p).alloc q).heap[w.heap.size + 1]? = some p := by
  rw [alloc_old _ _ _ (by simp), show w.heap.size + 1 = (w.alloc o).heap.size from by simp, alloc_new]

theorem alloc3_2 (w : World) (o p q : Obj) : (((w.alloc o).alloc p).alloc q).heap[w.heap.size + 1 + 1]? = some q := by
  rw [show w.heap.size + 1 + 1 = ((w.alloc o).alloc p).heap.size from by simp, alloc_new]

theorem below3 (w : World) (o p q : Obj) : Below w.heap.size w (((w.alloc o).alloc p).alloc q) :=
  ((((Below.refl _ w).alloc (Nat.le_refl _) o).alloc (by simp) p).alloc (by simp; omega) q)

def RetFam (w : World) (m : Int) (zs : List Int) (e : Ending) (w' : World) : Prop :=
  ∃ a cap, e = .returned (.agg #[.int .i64 m, .slice a zs.length cap]) ∧ OwnI w' w.heap.size (.slice a zs.length cap) zs ∧ Below w.heap.size w w'

set_option maxRecDepth 100000 in
set_option maxHeartbeats 400000 in
theorem toFamily_any (m : Int) (a : Option Addr) (cap : Nat) (zs : List Int) (w : World) (hz : Ints w w.heap.size a zs) (hn : zs.length ≤ 1048576) :
    Calls Try.prog 10 #[.agg #[.int .i64 m, .slice a zs.length cap]] w (RetFam w m zs) := by
  obtain ⟨n, hn'⟩ : ∃ n, n = zs.length := ⟨_, rfl⟩
  have HN : Hid (n = zs.length) := Lib.hid hn'
  rw [← hn']
  clear hn'
  have HZ := Lib.hid hz
  have HL := Lib.hid hn
  clear hz hn
  go_enter Try.func10, Try.ntmps10
  go_wp2_with fail
  rw [HN.out]
  have HB := Lib.hid (below3 w (.cells #[.int .i64 m, .slice a zs.length cap] 24) (.cells #[.int .i64 0, .slice none 0 0] 28) (.cells #[.int .i64 m, .slice none 0 0] 28))
  refine (toIntS_any _ _ zs _ ((HZ.out.below HB.out).mono (by simp; omega)) HL.out).mono ?_
  rintro e w1 ⟨a1, c1, rfl, hown, hb⟩
  have b1 : w1.heap[w.heap.size + 1]? = some (.cells #[.int .i64 0, .slice none 0 0] 28 (0, 0)) := (hb.block _ (by simp)).trans (alloc3_1 w _ _ _)
  have b2 : w1.heap[w.heap.size + 1 + 1]? = some (.cells #[.int .i64 m, .slice none 0 0] 28 (0, 0)) := (hb.block _ (by simp)).trans (alloc3_2 w _ _ _)
  have hsz : w.heap.size + 1 + 1 < w1.heap.size := by have := hb.size; simp at this; omega
  have d0 := blk_cell b1 0
  have d1 := blk_cell b1 1
  have e0 := blk_cell b2 0
  have e1 := blk_cell b2 1
  have f0 := blk_frozen b1 0
  have f1 := blk_frozen b1 1
  have g1 := blk_frozen b2 1
  simp only [Array.getElem?_eq_getElem, List.size_toArray, List.length_cons, List.length_nil, Nat.reduceAdd, Nat.reduceLT, List.getElem_toArray, List.getElem_cons_zero, List.getElem_cons_succ] at d0 d1 e0 e1
  have HH := Lib.hid hb
  have HO := Lib.hid hown
  clear hb hown b1 b2
  go_wp2
  refine bodyPost_ret (v := .agg #[.int .i64 m, .slice a1 zs.length c1]) (by simp [results, Try.results10, go_sem, d0, d1]) rfl ?_
  refine ⟨a1, c1, rfl, ?_, ?_⟩
  · exact own_mono (ownsRow_setCell_below (ownsRow_setCell_below (ownsRow_setCell_below HO.out (by simp) _) (by simp) _) (by simp) _) (by simp; omega)
  · exact (((HB.out.trans (HH.out.mono (by simp; omega))).setCell (p := ⟨w.heap.size + 1 + 1, 1, none⟩) (by simp; omega) _).setCell (p := ⟨w.heap.size + 1, 0, none⟩) (by simp) _).setCell (p := ⟨w.heap.size + 1, 1, none⟩) (by simp) _

end Go.Proofs.Ytlfbpaphjkbcmaa
