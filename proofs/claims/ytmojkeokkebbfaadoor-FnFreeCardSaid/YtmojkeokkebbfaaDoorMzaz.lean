/- It is proved what CoverFree of the program returns; conditions: those of each statement. -/
import Derived.RowKit
import Derived.Laws.CopyRow
import Derived.Lib.SlBuf
import Derived.Deep.QuietTactic
import Derived.RangeFuncNested
import Derived.RangeFuncBound
import Derived.RangeFuncCalls
import Derived.RangeFuncLeaves
import Derived.RangeFuncBox
import Derived.RangeFuncWrites
import Derived.StillTailTactics
import Derived.Maps.OwnIn
import Derived.Maps.Ext
import Derived.DeepKeys4
import Derived.MapKept
import Derived.Test.YtmojkeokkebbfaaDoorRows
import Derived.WalkKit
import Derived.WalkSpells
import Derived.ProofKit
import Derived.OpenShut
import Derived.ShutString
import Derived.ChangeOld
import Derived.Below
import Derived.Deep.RegionHeld3
import Derived.BigQuiet
import Derived.Lib.Hide
import Derived.Lib.SmallJoins
import Derived.Outline
import Derived.Laws.MakeOwn
import Derived.Laws.OwnMore
import Derived.IntWalk
import Derived.Maps.AppendAt
import Derived.Sort.MapsRangeIn
import Derived.Shelf.Slices.Reverse
import Derived.Lib.AppendZeros
import Derived.Deep.AppendLies
import Derived.OwnWalk
import Derived.Lib.SlicesCompact
import Derived.Lib.OwnBridge
import Derived.OrdersIn
import Derived.TacticsIn
import Derived.Shelf.Sort.Plain
import Derived.Shelf.Slices.In.SortNone
import Derived.Shelf.Slices.CompactI
import Derived.Ground.Names2Prog
import Derived.Lib.SliceRun
import Derived.Shelf.Abstract
import Derived.Shelf.RegionOpen
import Derived.OwnWalkIn
import Derived.TacticsInMore
import Derived.LoopNIn
import Derived.LoopIn
import Derived.StillTail
import Derived.StillTactics
import Derived.Shelf.Spec.TrailingZeros
import Derived.Test.YtmojkeokkebbfaaDoorMzaa
import Derived.Test.YtmojkeokkebbfaaDoorMzap
import Derived.Test.YtmojkeokkebbfaaDoorMzad
import Derived.Test.YtmojkeokkebbfaaDoorMzax
import Derived.Test.YtmojkeokkebbfaaDoorMzae
import Derived.Test.YtmojkeokkebbfaaDoorMzaf
import Derived.Test.YtmojkeokkebbfaaDoorMzaw
import Derived.Test.YtmojkeokkebbfaaDoorMzag
import Derived.Test.YtmojkeokkebbfaaDoorMzab
import Derived.Test.YtmojkeokkebbfaaDoorMzay
import Derived.Test.YtmojkeokkebbfaaDoorMzav
import Derived.Test.YtmojkeokkebbfaaDoorMzan
import Derived.Test.YtmojkeokkebbfaaDoorMzao
import Derived.Test.YtmojkeokkebbfaaDoorMzas
namespace Go.Proofs.YtmojkeokkebbfaaDoor
open Go.RowKit

/-- The other members of the least covers, in order. -/
def othL (k : Nat) (zs : List Int) : List Int := zs.map fun z => bits .andNot .i64 (fullI (k : Int)) z

def freeZ (m : Int) (zs : List Int) : List Int := if famIn m zs then (othL m.toNat (lcL m.toNat zs)).reverse else []
theorem freeZ_len (m : Int) (zs : List Int) : (freeZ m zs).length ≤ 1048576 := by
  unfold freeZ
  cases h : famIn m zs
  · simp
  · obtain ⟨h1, h2, -, -⟩ := famIn_out h
    have := lcL_len (m := m.toNat) (by omega) zs
    simp only [if_true, List.length_reverse, othL, List.length_map]
    omega

theorem reverse_own (a : Option Addr) (n cap B : Nat) (zs : List Int) (w : World) (h : OwnN w B a n cap zs) (hn : n ≤ 1048576) :
    Calls Tryd.prog 82 #[.slice a n cap] w fun e w' => e = .returned (.tuple #[]) ∧ OwnN w' B a n cap zs.reverse ∧ w.grownBy w' (Value.slice a n cap).ownBlock := by
  rcases h.2 with ⟨e, h0⟩ | ⟨g, cap', cur, e, _⟩
  · injection e with e1 e2 e3
    subst e1; subst e2; subst e3
    have hz : zs = [] := List.eq_nil_of_length_eq_zero h.len
    subst hz
    go_enter Tryd.func82, Tryd.ntmps82
    go_wp2
    go_loop [2, 3] (fun i j => i = .int .i64 0 ∧ j = .int .i64 (-1)) (fun _ _ => 0)
    case atStart => exact ⟨rfl, rfl⟩
    case round =>
      obtain ⟨rfl, rfl⟩ := hrel
      go_wp2
      go_end0
      exact ⟨rfl, by simpa using h, World.grownBy.refl _ _⟩
  · injection e with e1 e2 e3
    subst e1; subst e3
    exact reverse_any g n cap B zs w h hn

set_option maxRecDepth 100000 in
set_option maxHeartbeats 4000000 in
theorem implCoverFree_any (m : Int) (a : Option Addr) (c : Nat) (zs : List Int) (w : World) (ha : Ints w w.heap.size a zs) (hx : zs.length ≤ 1048576) :
    Calls Tryd.prog 44 #[.agg #[.int .i64 m, .slice a zs.length c]] w (RetSB w (freeZ m zs) (famIn m zs)) := by
  have HB0 := Lib.hid (below1 w (.cells #[.int .i64 m, .slice a zs.length c] 25))
  have hA := (ha.below HB0.out).mono (show w.heap.size ≤ (w.alloc (.cells #[.int .i64 m, .slice a zs.length c] 25)).heap.size by simp)
  have HC := Lib.hid (implCoverSets_any m a c zs _ hA hx)
  have hff := field_fam
  clear ha hA
  cases hf : famIn m zs
  · have HF := Lib.hid hf
    have HZ : Hid (freeZ m zs = []) := Lib.hid (by unfold freeZ; rw [hf]; rfl)
    clear hf
    go_enter Tryd.func44, Tryd.ntmps44
    go_wp2_with fail
    refine HC.out.mono ?_
    rintro e w1 ⟨a1, c1, rfl, -, hb⟩
    rw [HF.out]
    have HB := Lib.hid (HB0.out.trans (hb.mono (by simp)))
    clear hb
    go_wp2
    go_ret2
    exact ⟨none, 0, by rw [HZ.out]; rfl, by rw [HZ.out]; exact own_nil _ _, HB.out⟩
  · have HF := Lib.hid hf
    have HLC : Hid (lcZ m zs = lcL m.toNat zs) := Lib.hid (by unfold lcZ; rw [hf]; rfl)
    obtain ⟨k, rfl, hk1, hk6, hset, hl8⟩ := fam_nat hf
    have hk1I : (1 : Int) ≤ (k : Int) := by omega
    have hk6I : (k : Int) ≤ 6 := by omega
    have HZ : Hid (freeZ (k : Int) zs = (othL k (lcL k zs)).reverse) := Lib.hid (by unfold freeZ; rw [hf]; rfl)
    have hLn : (lcL k zs).length ≤ 64 := lcL_len hk6 zs
    have HON : Hid ((othL k (lcL k zs)).length = (lcL k zs).length) := Lib.hid (by unfold othL; rw [List.length_map])
    rw [Int.toNat_natCast] at HLC
    clear hf
    go_enter Tryd.func44, Tryd.ntmps44
    go_wp2_with fail
    refine HC.out.mono ?_
    rintro e w1 ⟨a1, c1, rfl, ho, hb⟩
    rw [HF.out]
    rw [HLC.out] at ho ⊢
    have b0 : w1.heap[w.heap.size]? = some (.cells #[.int .i64 (k : Int), .slice a zs.length c] 25 (0, 0)) := (hb.block _ (by simp)).trans (alloc_new w _)
    have x0 := (blk_cell b0 0).trans (cell2_0 _ _)
    have z1 : w.heap.size < w1.heap.size := lt_of_some b0
    have HOt := Lib.hid (otherFam_any (k : Int) a1 c1 (lcL k zs) w1 (own_ints ho) (by omega) hk1I hk6I)
    have HB := Lib.hid (HB0.out.trans (hb.mono (by simp)))
    clear hb b0 ho
    go_wp2_with fail
    refine HOt.out.mono ?_
    rintro e w2 ⟨a2, c2, rfl, ho2, hb2⟩
    have ho2' : OwnN w2 w1.heap.size a2 (othL k (lcL k zs)).length c2 (othL k (lcL k zs)) := ho2
    have HR := Lib.hid (reverse_own a2 _ c2 w1.heap.size _ w2 ho2' (by have := HON.out; omega))
    have HB2 := Lib.hid (HB.out.trans (hb2.mono (by omega)))
    have HO2 := Lib.hid ho2'
    have hEQ : (List.map (fun z => bits BinOp.andNot IntKind.i64 (fullI (k : Int)) z) (lcL k zs)).length = (othL k (lcL k zs)).length := rfl
    rw [hEQ]
    have Z1 := Lib.hid z1
    clear hb2 ho2 ho2' hEQ z1
    go_wp2_with fail
    refine HR.out.mono ?_
    rintro e w3 ⟨rfl, ho3, hg3⟩
    have HO3 : Hid (OwnI w3 w.heap.size (.slice a2 (freeZ (k : Int) zs).length c2) (freeZ (k : Int) zs)) := Lib.hid (by
      rw [HZ.out, List.length_reverse]
      have h1 : OwnN w3 w.heap.size a2 (othL k (lcL k zs)).length c2 (othL k (lcL k zs)).reverse := ho3.base (by have := Z1.out; omega)
      unfold OwnI
      rw [List.length_reverse]
      exact h1)
    have HB3 := Lib.hid (HB2.out.grown hg3 (by have := HB2.out.size; omega) (fun g e => (by have := World.ownsRow.lt HO2.out g e; have := Z1.out; omega)))
    have HEN : Hid ((freeZ (k : Int) zs).length = (othL k (lcL k zs)).length) := Lib.hid (by rw [HZ.out, List.length_reverse])
    clear ho3 hg3
    go_wp2
    go_ret2
    exact ⟨a2, c2, by rw [HEN.out]; rfl, HO3.out, HB3.out⟩

end Go.Proofs.YtmojkeokkebbfaaDoor

/- It is proved what FamilyDegrees of the model returns; conditions: those of each statement. -/
namespace Go.Proofs.YtmojkeokkebbfaaDoor
open Go.RowKit

set_option maxRecDepth 100000 in
theorem bit_fin : ∀ s : Fin 64, ∀ v : Fin 6, bits BinOp.and IntKind.i64 ((s.val : Int) / 2 ^ v.val) 1 = (((s.val >>> v.val) &&& 1 : Nat) : Int) := by decide +kernel

theorem bit_at (s v : Nat) (hs : s < 64) (hv : v < 6) : bits BinOp.and IntKind.i64 ((s : Int) / 2 ^ v) 1 = (((s >>> v) &&& 1 : Nat) : Int) := bit_fin ⟨s, hs⟩ ⟨v, hv⟩
end Go.Proofs.YtmojkeokkebbfaaDoor

/- It is proved how sums of degrees, sizes, unions and meetings of clubs count their members; conditions: those of each statement. -/
namespace Go.Proofs.YtmojkeokkebbfaaDoor
open Go.RowKit

set_option maxRecDepth 100000 in
theorem pop_mem_fin : ∀ s : Fin 64, pop (s.val : Int) = ((mem s.val).length : Int) := by decide +kernel

theorem pop_mem {s : Nat} (h : s < 64) : pop (s : Int) = ((mem s).length : Int) := pop_mem_fin ⟨s, h⟩
theorem allMem_cons (z : Int) (zs : List Int) : allMem (z :: zs) = mem z.toNat ++ allMem zs := by simp [allMem]
theorem small63 {m : Int} {zs : List Int} (h : famIn m zs = true) : ∀ z ∈ zs, 0 ≤ z ∧ z ≤ 63 := fun z hz => by
  obtain ⟨h1, h2, h3, h4⟩ := famIn_out h
  have := h4 z hz
  have h5 : fullI m ≤ 63 := by rcases m16 h1 h2 with rfl | rfl | rfl | rfl | rfl | rfl <;> decide
  omega

set_option maxRecDepth 100000 in
theorem mem_one_fin : ∀ s : Fin 64, ∀ v : Fin 6, (mem s.val).count v.val = if s.val.testBit v.val then 1 else 0 := by decide +kernel

theorem mem_one {s v : Nat} (hs : s < 64) (hv : v < 6) : (mem s).count v = if s.testBit v then 1 else 0 := mem_one_fin ⟨s, hs⟩ ⟨v, hv⟩
/-- A club has a member. -/
def hasM (v : Nat) (z : Int) : Bool := z.toNat.testBit v

theorem count_all {v : Nat} (hv : v < 6) : ∀ zs : List Int, (∀ z ∈ zs, 0 ≤ z ∧ z ≤ 63) → (allMem zs).count v = zs.countP (hasM v)
  | [], _ => by simp [allMem]
  | z :: zs, h => by
    have ih := count_all hv zs (fun x hx => h x (by simp [hx]))
    have hz := h z (by simp)
    rw [allMem_cons, List.count_append, ih, mem_one (by omega) hv, List.countP_cons]
    unfold hasM
    omega

theorem bit_val {S v : Nat} (hS : S < 64) (hv : v < 6) : bits BinOp.and IntKind.i64 ((S : Int) / 2 ^ v) 1 = if S.testBit v then 1 else 0 := by
  rw [bit_at S v hS hv]
  have h1 : (S >>> v) &&& 1 = if S.testBit v then 1 else 0 := by
    rw [Nat.testBit, Nat.and_comm]
    have : 1 &&& (S >>> v) ≤ 1 := Nat.and_le_left
    by_cases h0 : 1 &&& (S >>> v) = 0
    · rw [h0]; rfl
    · rw [show 1 &&& (S >>> v) = 1 by omega]; rfl
  rw [h1]
  cases S.testBit v <;> rfl

end Go.Proofs.YtmojkeokkebbfaaDoor
