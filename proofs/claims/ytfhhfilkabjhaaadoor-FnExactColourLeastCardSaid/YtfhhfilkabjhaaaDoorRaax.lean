/- It is proved what CoverSmall of the program and of the reference model returns; conditions: those of each statement. -/
import Derived.RowKit
import Derived.Laws.CopyRow
import Derived.Lib.SlBuf
import Derived.Deep.QuietTactic
import Derived.RangeFuncNested
import Derived.RangeFuncBound
import Derived.RangeFuncCalls
import Derived.RangeFuncLeaves
import Derived.RangeFuncBox
import Derived.RangeFuncWrites
import Derived.StillTailTactics
import Derived.Maps.OwnIn
import Derived.Maps.Ext
import Derived.DeepKeys4
import Derived.MapKept
import Derived.Test.YtfhhfilkabjhaaaDoorRows
import Derived.WalkKit
import Derived.WalkSpells
import Derived.ProofKit
import Derived.OpenShut
import Derived.ShutString
import Derived.ChangeOld
import Derived.Below
import Derived.Deep.RegionHeld3
import Derived.BigQuiet
import Derived.Lib.Hide
import Derived.Lib.SmallJoins
import Derived.Outline
import Derived.Laws.MakeOwn
import Derived.Laws.OwnMore
import Derived.IntWalk
import Derived.Lib.AppendZeros
import Derived.Maps.AppendAt
import Derived.Deep.AppendLies
import Derived.OwnWalk
import Derived.Lib.SlicesCompact
import Derived.Lib.OwnBridge
import Derived.OrdersIn
import Derived.TacticsIn
import Derived.Shelf.Sort.Plain
import Derived.Shelf.Slices.In.SortNone
import Derived.Shelf.Slices.CompactI
import Derived.Ground.Names2Prog
import Derived.Lib.SliceRun
import Derived.Shelf.Abstract
import Derived.Shelf.RegionOpen
import Derived.OwnWalkIn
import Derived.TacticsInMore
import Derived.LoopNIn
import Derived.LoopIn
import Derived.StillTail
import Derived.StillTactics
import Derived.Shelf.Spec.TrailingZeros
import Derived.Deep.RegionLaw
import Derived.Test.YtfhhfilkabjhaaaDoorRaaa
import Derived.Test.YtfhhfilkabjhaaaDoorRaab
import Derived.Test.YtfhhfilkabjhaaaDoorRaat
import Derived.Deep.LoopGhost
import Derived.Test.YtfhhfilkabjhaaaDoorRaag
import Derived.Test.YtfhhfilkabjhaaaDoorRaaf
import Derived.Test.YtfhhfilkabjhaaaDoorYa
import Derived.Test.YtfhhfilkabjhaaaDoorYb
import Derived.Test.YtfhhfilkabjhaaaDoorRaac
import Derived.Test.YtfhhfilkabjhaaaDoorRaad
import Derived.Test.YtfhhfilkabjhaaaDoorKa
import Derived.Test.YtfhhfilkabjhaaaDoorKc
import Derived.Test.YtfhhfilkabjhaaaDoorRaaw
namespace Go.Proofs.YtfhhfilkabjhaaaDoor
open Go.RowKit

theorem at_in {xs : List Int} {k : Nat} (h : k < xs.length) : xs[k]?.getD 0 ∈ xs := by
  rw [List.getElem?_eq_getElem h]; exact List.getElem_mem _

end Go.Proofs.YtfhhfilkabjhaaaDoor

/- It is proved that a family of chapter 5, drawn from bytes and written again, is the call's own; conditions: those of each statement. -/
namespace Go.Proofs.YtfhhfilkabjhaaaDoor
open Go.RowKit

theorem own_wr {w : World} {B : Nat} {a : Option Addr} {n c k : Nat} {zs : List Int} (h : OwnI w B (.slice a n c) zs) (hk : k < zs.length) :
    ∃ g, a = some ⟨g, 0, none⟩ ∧ B ≤ g ∧ g < w.heap.size ∧ w.cell? ⟨g, k, none⟩ = some (.int .i64 (zs[k]?.getD 0)) ∧ w.frozen? ⟨g, k, none⟩ = false ∧
      ∀ x, OwnI (w.setCell ⟨g, k, none⟩ (.int .i64 x)) B (.slice a n c) (zs.set k x) := by
  have h' := h
  rcases h.2 with ⟨h2, hn⟩ | ⟨g, cap, cur, e, hb, hg, hnc, hcm, hcs, hct⟩
  · omega
  · injection e with e1 e2 e3
    subst e1
    simp only [Nat.mul_one] at hct hcs
    have hcell : cur[k]? = some (.int .i64 (zs[k]?.getD 0)) := by
      have : (cur.toList.take zs.length)[k]? = (zs.map (Value.int .i64))[k]? := by rw [hct]
      rw [List.getElem?_take_of_lt hk, Array.getElem?_toList] at this
      rw [this, List.getElem?_map]
      simp [hk]
    refine ⟨g, rfl, hb, (Array.getElem?_eq_some_iff.1 hg).1, ?_, ?_, fun x => ?_⟩
    · exact (blk_cell hg k).trans hcell
    · exact blk_frozen hg _
    · refine ⟨by simp, .inr ⟨g, cap, cur.setIfInBounds k (.int .i64 x), by rw [List.length_set, e2, e3], hb, heap_setCell_same w g k cur 3 _ hg, by rw [List.length_set]; exact hnc, hcm, by simp [hcs], ?_⟩⟩
      rw [List.length_set, Nat.mul_one, Array.toList_setIfInBounds, List.take_set, hct, List.map_set]

end Go.Proofs.YtfhhfilkabjhaaaDoor

/- It is proved what l6eReduce returns; conditions: those of each statement. -/
namespace Go.Proofs.YtfhhfilkabjhaaaDoor
open Go.RowKit

theorem own_wr6 {w : World} {B : Nat} {a : Option Addr} {n c k : Nat} {zs : List Int} (h : OwnN w B a n c zs) (hk : k < n) :
    ∃ g, a = some ⟨g, 0, none⟩ ∧ B ≤ g ∧ g < w.heap.size ∧ w.cell? ⟨g, k, none⟩ = some (.int .i64 (zs[k]?.getD 0)) ∧ w.frozen? ⟨g, k, none⟩ = false ∧
      ∀ x, OwnN (w.setCell ⟨g, k, none⟩ (.int .i64 x)) B a n c (zs.set k x) := by
  have hl := h.len
  subst hl
  obtain ⟨g, h1, h2, h3, h4, h5, h6⟩ := own_wr h hk
  exact ⟨g, h1, h2, h3, h4, h5, fun x => by have := h6 x; unfold OwnI at this; rw [List.length_set] at this; exact this⟩

/-- The model is through. -/
def RDone (k : Nat) (zs out : List Int) (st : Nat) : Prop :=
  simpZ out = redZ k zs ∧ out.length = (redZ k zs).length ∧ (∀ z, z ∈ out ↔ z ∈ redZ k zs) ∧ st + mbN (redZ k zs) + (redZ k zs).length = mbN zs + zs.length

def RedRet (w : World) (k : Nat) (zs : List Int) (e : Ending) (w' : World) : Prop :=
  ∃ b cap out st, e = .returned (.tuple #[.slice b (out.length) cap, .int .i64 ((st : Nat) : Int)]) ∧ OwnN w' w.heap.size b out.length cap out ∧ Below w.heap.size w w' ∧ RDone k zs out st

theorem cnt_take (v : Nat) (l : List Int) {i : Nat} (hi : i < l.length) : (l.take (i + 1)).countP (Bt v) = (l.take i).countP (Bt v) + if Bt v (l[i]?.getD 0) then 1 else 0 := by
  rw [List.take_succ_eq_append_getElem hi, List.countP_append, List.countP_singleton, List.getElem?_eq_getElem hi, Option.getD_some]

set_option maxRecDepth 100000 in
theorem bt_int_fin : ∀ z : Fin 64, ∀ v : Fin 6, bits .and .i64 ((z.val : Int) / 2 ^ v.val) 1 = if z.val.testBit v.val then 1 else 0 := by decide +kernel

theorem bt_int {z : Int} (h0 : 0 ≤ z) (hz : z.toNat < 64) {v : Nat} (hv : v < 6) : bits .and .i64 (z / 2 ^ v) 1 = if Bt v z then 1 else 0 := by
  have := bt_int_fin ⟨z.toNat, hz⟩ ⟨v, hv⟩
  simp only [Int.toNat_of_nonneg h0] at this
  exact this

end Go.Proofs.YtfhhfilkabjhaaaDoor

/- It is proved what l6eFree and l6eOrder return; conditions: those of each statement. -/
namespace Go.Proofs.YtfhhfilkabjhaaaDoor
open Go.RowKit

theorem arN_take {v : Nat} {zs : List Int} {i : Nat} (h : i < zs.length) : arN v (zs.take (i + 1)) = if Bt v (zs[i]?.getD 0) = true then arN v (zs.take i) ||| (zs[i]?.getD 0 : Int).toNat else arN v (zs.take i) := by
  rw [List.take_succ_eq_append_getElem h, arN_snoc, List.getElem?_eq_getElem h, Option.getD_some]

def inL (n : Int) (zs : List Int) : Bool := zs.any fun z => decide (z = n)
theorem inL_take {n : Int} {zs : List Int} {i : Nat} (h : i < zs.length) : inL n (zs.take (i + 1)) = (inL n (zs.take i) || decide ((zs[i]?.getD 0) = n)) := by
  unfold inL
  rw [List.take_succ_eq_append_getElem h, List.any_append, List.getElem?_eq_getElem h, Option.getD_some]
  simp

set_option maxRecDepth 100000 in
theorem or7_fin : ∀ x : Fin 64, ∀ y : Fin 64, bits .or .i64 (x.val : Int) (y.val : Int) = ((x.val ||| y.val : Nat) : Int) := by decide +kernel

theorem or_at6 {x y : Nat} (hx : x < 64) (hy : y < 64) : bits .or .i64 (x : Int) (y : Int) = ((x ||| y : Nat) : Int) := or7_fin ⟨x, hx⟩ ⟨y, hy⟩
theorem take_sets {m : Nat} {zs : List Int} (h : Sets m zs) (i : Nat) : Sets m (zs.take i) := fun z hz => h z (List.mem_of_mem_take hz)
set_option maxRecDepth 100000 in
set_option maxHeartbeats 4000000 in
theorem l6eFree_any (k : Nat) (hk6 : k ≤ 6) (v : Nat) (hv6 : v < 6) (a : Option Addr) (c : Nat) (zs : List Int) (w : World) (ha : Ints w w.heap.size a zs) (h8 : zs.length ≤ 8) (hz : Sets k zs) :
    Calls Tryd.prog 73 #[.slice a zs.length c, .int .i64 (v : Int)] w fun e w' => e = .returned (.bool (leavB v zs)) ∧ w = w' := by
  have HS := Lib.hid hz
  have HI := Lib.hid ha
  have HAL : Hid (∀ i, arN v (zs.take i) < 64) := Lib.hid fun i => p64 hk6 (arN_lt (take_sets hz i))
  obtain ⟨n, hn⟩ : ∃ n, n = zs.length := ⟨_, rfl⟩
  have HN := Lib.hid hn
  obtain ⟨R, hR⟩ : ∃ R, R = leavB v zs := ⟨_, rfl⟩
  have HR := Lib.hid hR
  rw [← hn] at h8 ⊢
  rw [← hR]
  clear ha hz hn hR
  have hv0 : (0 : Int) ≤ (v : Int) := by omega
  go_enter Tryd.func73, Tryd.ntmps73
  go_wp2
  go_loop [5, 7] (fun s i => ∃ j : Nat, j ≤ n ∧ i = .int .i64 (j : Int) ∧ s = .int .i64 ((arN v (zs.take j) : Nat) : Int)) (fun _ i => n - (intOf i).toNat)
  case atStart => exact ⟨0, Nat.zero_le _, rfl, by simp [arN]⟩
  case round =>
    obtain ⟨j, hj, rfl, rfl⟩ := hrel
    by_cases hlt : j < n
    · have hji : (j : Int) < (n : Int) := by omega
      have hj0 : (0 : Int) ≤ (j : Int) := by omega
      obtain ⟨b, off, rfl, hbb, hcc⟩ := HI.out.at_ (k := j) (by rw [← HN.out]; exact hlt)
      have HAT := Lib.hid (arN_take (v := v) (zs := zs) (i := j) (by rw [← HN.out]; exact hlt))
      obtain ⟨z, hz⟩ : ∃ z, z = zs[j]?.getD 0 := ⟨_, rfl⟩
      have hzm : z ∈ zs := by rw [hz]; exact at_in (by rw [← HN.out]; exact hlt)
      have hz0 : 0 ≤ z := (HS.out z hzm).1
      have hz64 : z.toNat < 64 := p64 hk6 (HS.out z hzm).2
      have hbt := bt_int hz0 hz64 hv6
      have hz63 : z ≤ 63 := by omega
      rw [← hz] at hcc HAT
      have hA64 := HAL.out j
      obtain ⟨A, hA⟩ : ∃ A, A = arN v (zs.take j) := ⟨_, rfl⟩
      rw [← hA] at HAT hA64 ⊢
      have hor : bits .or .i64 (A : Int) z = ((A ||| z.toNat : Nat) : Int) := by
        have := or_at6 hA64 hz64
        rwa [Int.toNat_of_nonneg hz0] at this
      clear hz hzm hA
      cases hb : Bt v z
      · rw [hb] at hbt HAT
        simp only [Bool.false_eq_true, if_false] at hbt HAT
        clear hb hor
        go_wp2
        go_round
        case rel => exact ⟨j + 1, by omega, by go_num, by rw [HAT.out]⟩
        case measure => simp [intOf]; omega
      · rw [hb] at hbt HAT
        simp only [if_true] at hbt HAT
        clear hb
        go_wp2
        go_round
        case rel => exact ⟨j + 1, by omega, by go_num, by rw [HAT.out]⟩
        case measure => simp [intOf]; omega
    · obtain rfl : j = n := by omega
      have hfull : zs.take j = zs := List.take_of_length_le (by rw [← HN.out]; exact Nat.le_refl _)
      rw [hfull]
      obtain ⟨A, hA⟩ : ∃ A, A = arN v zs := ⟨_, rfl⟩
      have HRA : Hid (R = (decide (A = 0) || inL (A : Int) zs)) := Lib.hid (by rw [HR.out, hA]; rfl)
      rw [← hA]
      clear hfull hA
      go_wp2
      go_loop [6, 8] (fun s i => ∃ q : Nat, q ≤ j ∧ i = .int .i64 (q : Int) ∧ s = .bool (inL (A : Int) (zs.take q))) (fun _ i => j - (intOf i).toNat)
      case atStart => exact ⟨0, Nat.zero_le _, rfl, by simp [inL]⟩
      case round =>
        obtain ⟨q, hq, rfl, rfl⟩ := hrel
        by_cases hlt2 : q < j
        · have hqi : (q : Int) < (j : Int) := by omega
          have hq0 : (0 : Int) ≤ (q : Int) := by omega
          obtain ⟨b, off, rfl, hbb, hcc⟩ := HI.out.at_ (k := q) (by rw [← HN.out]; exact hlt2)
          have HIT := Lib.hid (inL_take (n := (A : Int)) (zs := zs) (i := q) (by rw [← HN.out]; exact hlt2))
          obtain ⟨z, hz⟩ : ∃ z, z = zs[q]?.getD 0 := ⟨_, rfl⟩
          rw [← hz] at hcc HIT
          obtain ⟨D, hD⟩ : ∃ D, D = inL (A : Int) (zs.take q) := ⟨_, rfl⟩
          rw [← hD] at HIT ⊢
          have hd : (z == (A : Int)) = decide (z = (A : Int)) := by
            by_cases e : z = (A : Int)
            · rw [decide_eq_true e, beq_iff_eq]; exact e
            · rw [decide_eq_false e, beq_eq_false_iff_ne]; exact e
          clear hz hD
          cases D
          · go_wp2
            go_round
            case rel => exact ⟨q + 1, by omega, by go_num, by rw [HIT.out]; simp⟩
            case measure => simp [intOf]; omega
          · go_wp2
            go_round
            case rel => exact ⟨q + 1, by omega, by go_num, by rw [HIT.out]; simp⟩
            case measure => simp [intOf]; omega
        · obtain rfl : q = j := by omega
          have hfull : zs.take q = zs := List.take_of_length_le (by rw [← HN.out]; exact Nat.le_refl _)
          rw [hfull]
          obtain ⟨D, hD⟩ : ∃ D, D = inL (A : Int) zs := ⟨_, rfl⟩
          rw [← hD] at HRA ⊢
          clear hfull hD
          by_cases h0 : A = 0
          · subst h0
            go_wp2
            go_ret
            exact ⟨by rw [HRA.out]; simp, rfl⟩
          · have hb1 : ((A : Int) == 0) = false := by rw [beq_eq_false_iff_ne]; omega
            have hb2 : (A == 0) = false := by rw [beq_eq_false_iff_ne]; exact h0
            have HRD : Hid (R = D) := Lib.hid (by rw [HRA.out, decide_eq_false h0, Bool.false_or])
            clear h0
            go_wp2
            go_ret
            exact ⟨by rw [HRD.out]; rfl, rfl⟩

end Go.Proofs.YtfhhfilkabjhaaaDoor
