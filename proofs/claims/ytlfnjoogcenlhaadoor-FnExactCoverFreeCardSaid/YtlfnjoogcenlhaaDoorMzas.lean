/- It is proved what the FamilyOther of the program and of the model return; conditions: those of each statement. -/
import Derived.Test.YtlfnjoogcenlhaaDoorRows
import Derived.WalkKit
import Derived.WalkSpells
import Derived.ProofKit
import Derived.OpenShut
import Derived.ShutString
import Derived.ChangeOld
import Derived.Below
import Derived.Deep.RegionHeld3
import Derived.Deep.QuietTactic
import Derived.BigQuiet
import Derived.Lib.Hide
import Derived.Lib.SmallJoins
import Derived.Outline
import Derived.Laws.MakeOwn
import Derived.Laws.OwnMore
import Derived.IntWalk
import Derived.RangeFuncNested
import Derived.RangeFuncBound
import Derived.RangeFuncCalls
import Derived.RangeFuncLeaves
import Derived.RangeFuncBox
import Derived.Shelf.Abstract
import Derived.Shelf.RegionOpen
import Derived.OwnWalkIn
import Derived.TacticsInMore
import Derived.LoopNIn
import Derived.LoopIn
import Derived.Maps.AppendAt
import Derived.Deep.AppendLies
import Derived.OwnWalk
import Derived.Test.YtlfnjoogcenlhaaDoorMzaa
import Derived.Test.YtlfnjoogcenlhaaDoorMzab
import Derived.Test.YtlfnjoogcenlhaaDoorMzah
import Derived.Test.YtlfnjoogcenlhaaDoorMzao
import Derived.Test.YtlfnjoogcenlhaaDoorMzae
import Derived.Test.YtlfnjoogcenlhaaDoorMzar
import Derived.RowKit
import Derived.Laws.CopyRow
import Derived.Lib.SlBuf
import Derived.RangeFuncWrites
import Derived.StillTailTactics
import Derived.Maps.OwnIn
import Derived.Maps.Ext
import Derived.DeepKeys4
import Derived.MapKept
import Derived.Sort.MapsRangeIn
import Derived.Shelf.Slices.Reverse
import Derived.Lib.AppendZeros
import Derived.Lib.SlicesCompact
import Derived.Lib.OwnBridge
import Derived.OrdersIn
import Derived.TacticsIn
import Derived.Shelf.Sort.Plain
import Derived.Shelf.Slices.In.SortNone
import Derived.Shelf.Slices.CompactI
import Derived.Ground.Names2Prog
import Derived.Lib.SliceRun
import Derived.StillTail
import Derived.StillTactics
import Derived.Shelf.Spec.TrailingZeros
import Derived.Test.YtlfnjoogcenlhaaDoorMzad
import Derived.Test.YtlfnjoogcenlhaaDoorMzaf
import Derived.Test.YtlfnjoogcenlhaaDoorMzac
import Derived.Test.YtlfnjoogcenlhaaDoorMzal
import Derived.Test.YtlfnjoogcenlhaaDoorMzaq
namespace Go.Proofs.YtlfnjoogcenlhaaDoor
open Go.RowKit

theorem full_b (m : Int) (a : Option Addr) (n cap : Nat) (w : World) (h1 : 1 ≤ m) (h2 : m ≤ 6) :
    Calls Tryd.prog 79 #[.agg #[.int .i64 m, .slice a n cap]] w fun e w' => e = .returned (.int .i64 (fullI m)) ∧ Below w.heap.size w w' :=
  (full_any m a n cap w h1 h2).mono fun e w' ⟨he, hw⟩ => ⟨he, by rw [hw]; exact below1 _ _⟩

theorem otherFn_any (m : Int) (a : Option Addr) (n c : Nat) (z : Int) (X : Nat) (W : World) (h0 : W.cell? ⟨X, 0, none⟩ = some (.int .i64 m)) (h1 : W.cell? ⟨X, 1, none⟩ = some (.slice a n c)) (hm1 : 1 ≤ m) (hm6 : m ≤ 6) :
    Calls Tryd.prog 78 #[.int .i64 z, .pointer (some ⟨X, 0, none⟩)] W fun e W' => e = .returned (.int .i64 (bits .andNot .i64 (fullI m) z)) ∧ Below W.heap.size W W' := by
  go_enter Tryd.func78, Tryd.ntmps78
  go_wp2_with (go_at_call 79; refine (full_b _ _ _ _ _ hm1 hm6).mono ?_; rintro e w1 ⟨rfl, hb⟩; have HB := Lib.hid hb; clear hb)
  go_ret
  exact ⟨rfl, HB.out⟩

/-- The method other: no bound of clubs. -/
theorem otherFam_any (m : Int) (a : Option Addr) (c : Nat) (zs : List Int) (w : World) (ha : Ints w w.heap.size a zs) (hx : zs.length ≤ 1048576) (hm1 : 1 ≤ m) (hm6 : m ≤ 6) :
    Calls Tryd.prog 59 #[.agg #[.int .i64 m, .slice a zs.length c]] w (RetFam w m (zs.map fun z => bits .andNot .i64 (fullI m) z)) := by
  have hmf : ∀ (fn : Fn) (first cap : Array Value) (w : World), (Instr.makeFunc fn first cap).run Tryd.prog w = .ok (.func fn first cap) w := fun _ _ _ _ => rfl
  have HB0 := Lib.hid (below2 w (.cells #[.int .i64 m, .slice a zs.length c] 28) (.cells #[.int .i64 0, .slice none 0 0] 28))
  have HA := Lib.hid (ha.below HB0.out)
  have B0 := Lib.hid (alloc2_0 w (.cells #[.int .i64 m, .slice a zs.length c] 28) (.cells #[.int .i64 0, .slice none 0 0] 28))
  have Z1 := Lib.hid (show w.heap.size + 1 < ((w.alloc (.cells #[.int .i64 m, .slice a zs.length c] 28)).alloc (.cells #[.int .i64 0, .slice none 0 0] 28)).heap.size by simp)
  have Z0 := Lib.hid (show w.heap.size < ((w.alloc (.cells #[.int .i64 m, .slice a zs.length c] 28)).alloc (.cells #[.int .i64 0, .slice none 0 0] 28)).heap.size by simp; omega)
  clear ha
  go_enter Tryd.func59, Tryd.ntmps59
  go_wp2_with fail
  refine (mapped70 m a c zs w.heap.size (fun z => bits .andNot .i64 (fullI m) z) _ (HA.out.mono (by simp; omega)) hx (fun z W hW => otherFn_any m a zs.length c z _ W ((hW.cell (p := ⟨w.heap.size, 0, none⟩) Z0.out).trans ((blk_cell B0.out 0).trans (cell2_0 _ _))) ((hW.cell (p := ⟨w.heap.size, 1, none⟩) Z0.out).trans ((blk_cell B0.out 1).trans (cell2_1 _ _))) hm1 hm6)).mono ?_
  rintro e w2 ⟨a2, c2, rfl, ho2, hb2⟩
  have b2' : w2.heap[w.heap.size + 1]? = some (.cells #[.int .i64 0, .slice none 0 0] 28 (0, 0)) := (hb2.block _ (by simp)).trans (alloc2_1 w _ _)
  have d0 := (blk_cell b2' 0).trans (cell2_0 _ _)
  have d1 := (blk_cell b2' 1).trans (cell2_1 _ _)
  have f0 := blk_frozen b2' 0
  have f1 := blk_frozen b2' 1
  have HO2 := Lib.hid ho2
  have HB2 := Lib.hid (HB0.out.trans (hb2.mono (by simp; omega)))
  clear ho2 hb2 b2'
  go_wp2
  refine bodyPost_ret (v := .agg #[.int .i64 m, .slice a2 (zs.map fun z => bits .andNot .i64 (fullI m) z).length c2]) (by simp [results, Tryd.results59, go_sem, d0, d1]) rfl ?_
  refine ⟨a2, c2, rfl, ?_, ?_⟩
  · exact own_mono (ownsRow_setCell_below (ownsRow_setCell_below HO2.out Z1.out _) Z1.out _) (by simp; omega)
  · exact (HB2.out.setCell (p := ⟨w.heap.size + 1, 0, none⟩) (by simp) _).setCell (p := ⟨w.heap.size + 1, 1, none⟩) (by simp) _

end Go.Proofs.YtlfnjoogcenlhaaDoor

/- It is proved what CoverFree of the program returns; conditions: those of each statement. -/
namespace Go.Proofs.YtlfnjoogcenlhaaDoor
open Go.RowKit

/-- The other members of the least covers, in order. -/
def othL (k : Nat) (zs : List Int) : List Int := zs.map fun z => bits .andNot .i64 (fullI (k : Int)) z

def freeZ (m : Int) (zs : List Int) : List Int := if famIn m zs then (othL m.toNat (lcL m.toNat zs)).reverse else []
theorem freeZ_len (m : Int) (zs : List Int) : (freeZ m zs).length ≤ 1048576 := by
  unfold freeZ
  cases h : famIn m zs
  · simp
  · obtain ⟨h1, h2, -, -⟩ := famIn_out h
    have := lcL_len (m := m.toNat) (by omega) zs
    simp only [if_true, List.length_reverse, othL, List.length_map]
    omega

theorem reverse_own (a : Option Addr) (n cap B : Nat) (zs : List Int) (w : World) (h : OwnN w B a n cap zs) (hn : n ≤ 1048576) :
    Calls Tryd.prog 60 #[.slice a n cap] w fun e w' => e = .returned (.tuple #[]) ∧ OwnN w' B a n cap zs.reverse ∧ w.grownBy w' (Value.slice a n cap).ownBlock := by
  rcases h.2 with ⟨e, h0⟩ | ⟨g, cap', cur, e, _⟩
  · injection e with e1 e2 e3
    subst e1; subst e2; subst e3
    have hz : zs = [] := List.eq_nil_of_length_eq_zero h.len
    subst hz
    go_enter Tryd.func60, Tryd.ntmps60
    go_wp2
    go_loop [2, 3] (fun i j => i = .int .i64 0 ∧ j = .int .i64 (-1)) (fun _ _ => 0)
    case atStart => exact ⟨rfl, rfl⟩
    case round =>
      obtain ⟨rfl, rfl⟩ := hrel
      go_wp2
      go_end0
      exact ⟨rfl, by simpa using h, World.grownBy.refl _ _⟩
  · injection e with e1 e2 e3
    subst e1; subst e3
    exact reverse_any g n cap B zs w h hn

set_option maxRecDepth 100000 in
set_option maxHeartbeats 4000000 in
theorem implCoverFree_any (m : Int) (a : Option Addr) (c : Nat) (zs : List Int) (w : World) (ha : Ints w w.heap.size a zs) (hx : zs.length ≤ 1048576) :
    Calls Tryd.prog 33 #[.agg #[.int .i64 m, .slice a zs.length c]] w (RetSB w (freeZ m zs) (famIn m zs)) := by
  have HB0 := Lib.hid (below1 w (.cells #[.int .i64 m, .slice a zs.length c] 28))
  have hA := (ha.below HB0.out).mono (show w.heap.size ≤ (w.alloc (.cells #[.int .i64 m, .slice a zs.length c] 28)).heap.size by simp)
  have HC := Lib.hid (implCoverSets_any m a c zs _ hA hx)
  have hff := field_fam
  clear ha hA
  cases hf : famIn m zs
  · have HF := Lib.hid hf
    have HZ : Hid (freeZ m zs = []) := Lib.hid (by unfold freeZ; rw [hf]; rfl)
    clear hf
    go_enter Tryd.func33, Tryd.ntmps33
    go_wp2_with fail
    refine HC.out.mono ?_
    rintro e w1 ⟨a1, c1, rfl, -, hb⟩
    rw [HF.out]
    have HB := Lib.hid (HB0.out.trans (hb.mono (by simp)))
    clear hb
    go_wp2
    go_ret2
    exact ⟨none, 0, by rw [HZ.out]; rfl, by rw [HZ.out]; exact own_nil _ _, HB.out⟩
  · have HF := Lib.hid hf
    have HLC : Hid (lcZ m zs = lcL m.toNat zs) := Lib.hid (by unfold lcZ; rw [hf]; rfl)
    obtain ⟨k, rfl, hk1, hk6, hset, hl8⟩ := fam_nat hf
    have hk1I : (1 : Int) ≤ (k : Int) := by omega
    have hk6I : (k : Int) ≤ 6 := by omega
    have HZ : Hid (freeZ (k : Int) zs = (othL k (lcL k zs)).reverse) := Lib.hid (by unfold freeZ; rw [hf]; rfl)
    have hLn : (lcL k zs).length ≤ 64 := lcL_len hk6 zs
    have HON : Hid ((othL k (lcL k zs)).length = (lcL k zs).length) := Lib.hid (by unfold othL; rw [List.length_map])
    rw [Int.toNat_natCast] at HLC
    clear hf
    go_enter Tryd.func33, Tryd.ntmps33
    go_wp2_with fail
    refine HC.out.mono ?_
    rintro e w1 ⟨a1, c1, rfl, ho, hb⟩
    rw [HF.out]
    rw [HLC.out] at ho ⊢
    have b0 : w1.heap[w.heap.size]? = some (.cells #[.int .i64 (k : Int), .slice a zs.length c] 28 (0, 0)) := (hb.block _ (by simp)).trans (alloc_new w _)
    have x0 := (blk_cell b0 0).trans (cell2_0 _ _)
    have z1 : w.heap.size < w1.heap.size := lt_of_some b0
    have HOt := Lib.hid (otherFam_any (k : Int) a1 c1 (lcL k zs) w1 (own_ints ho) (by omega) hk1I hk6I)
    have HB := Lib.hid (HB0.out.trans (hb.mono (by simp)))
    clear hb b0 ho
    go_wp2_with fail
    refine HOt.out.mono ?_
    rintro e w2 ⟨a2, c2, rfl, ho2, hb2⟩
    have ho2' : OwnN w2 w1.heap.size a2 (othL k (lcL k zs)).length c2 (othL k (lcL k zs)) := ho2
    have HR := Lib.hid (reverse_own a2 _ c2 w1.heap.size _ w2 ho2' (by have := HON.out; omega))
    have HB2 := Lib.hid (HB.out.trans (hb2.mono (by omega)))
    have HO2 := Lib.hid ho2'
    have hEQ : (List.map (fun z => bits BinOp.andNot IntKind.i64 (fullI (k : Int)) z) (lcL k zs)).length = (othL k (lcL k zs)).length := rfl
    rw [hEQ]
    have Z1 := Lib.hid z1
    clear hb2 ho2 ho2' hEQ z1
    go_wp2_with fail
    refine HR.out.mono ?_
    rintro e w3 ⟨rfl, ho3, hg3⟩
    have HO3 : Hid (OwnI w3 w.heap.size (.slice a2 (freeZ (k : Int) zs).length c2) (freeZ (k : Int) zs)) := Lib.hid (by
      rw [HZ.out, List.length_reverse]
      have h1 : OwnN w3 w.heap.size a2 (othL k (lcL k zs)).length c2 (othL k (lcL k zs)).reverse := ho3.base (by have := Z1.out; omega)
      unfold OwnI
      rw [List.length_reverse]
      exact h1)
    have HB3 := Lib.hid (HB2.out.grown hg3 (by have := HB2.out.size; omega) (fun g e => (by have := World.ownsRow.lt HO2.out g e; have := Z1.out; omega)))
    have HEN : Hid ((freeZ (k : Int) zs).length = (othL k (lcL k zs)).length) := Lib.hid (by rw [HZ.out, List.length_reverse])
    clear ho3 hg3
    go_wp2
    go_ret2
    exact ⟨a2, c2, by rw [HEN.out]; rfl, HO3.out, HB3.out⟩

end Go.Proofs.YtlfnjoogcenlhaaDoor
