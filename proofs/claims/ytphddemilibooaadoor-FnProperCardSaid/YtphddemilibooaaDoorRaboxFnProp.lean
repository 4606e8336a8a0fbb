/- It is proved what the reference model's powers, lists of colours and questions for mixed colours return; conditions: those of each statement. -/
import Derived.RowKit
import Derived.Laws.CopyRow
import Derived.Lib.SlBuf
import Derived.Deep.QuietTactic
import Derived.RangeFuncNested
import Derived.RangeFuncBound
import Derived.RangeFuncCalls
import Derived.RangeFuncLeaves
import Derived.RangeFuncBox
import Derived.RangeFuncWrites
import Derived.StillTailTactics
import Derived.Maps.OwnIn
import Derived.Maps.Ext
import Derived.DeepKeys4
import Derived.MapKept
import Derived.Test.YtphddemilibooaaDoorRows
import Derived.WalkKit
import Derived.WalkSpells
import Derived.ProofKit
import Derived.OpenShut
import Derived.ShutString
import Derived.ChangeOld
import Derived.Below
import Derived.Deep.RegionHeld3
import Derived.BigQuiet
import Derived.Lib.Hide
import Derived.Lib.SmallJoins
import Derived.Outline
import Derived.Laws.MakeOwn
import Derived.Laws.OwnMore
import Derived.IntWalk
import Derived.Lib.AppendZeros
import Derived.Maps.AppendAt
import Derived.Deep.AppendLies
import Derived.OwnWalk
import Derived.Lib.SlicesCompact
import Derived.Lib.OwnBridge
import Derived.OrdersIn
import Derived.TacticsIn
import Derived.Shelf.Sort.Plain
import Derived.Shelf.Slices.In.SortNone
import Derived.Shelf.Slices.CompactI
import Derived.Ground.Names2Prog
import Derived.Lib.SliceRun
import Derived.Shelf.Abstract
import Derived.Shelf.RegionOpen
import Derived.OwnWalkIn
import Derived.TacticsInMore
import Derived.LoopNIn
import Derived.LoopIn
import Derived.StillTail
import Derived.StillTactics
import Derived.Shelf.Spec.TrailingZeros
import Derived.Deep.LoopGhost
import Derived.Test.YtphddemilibooaaDoorRabjxFnProp
import Derived.Test.YtphddemilibooaaDoorRaaa
import Derived.Test.YtphddemilibooaaDoorRaad
import Derived.Test.YtphddemilibooaaDoorRabhxFnProp
import Derived.Test.YtphddemilibooaaDoorRabkxFnProp
import Derived.Test.YtphddemilibooaaDoorKc
import Derived.Deep.RegionLaw
import Derived.Test.YtphddemilibooaaDoorRaab
import Derived.Test.YtphddemilibooaaDoorRaac
import Derived.Test.YtphddemilibooaaDoorYa
import Derived.Sort.MapsRangeIn
import Derived.Test.YtphddemilibooaaDoorRaas
import Derived.Test.YtphddemilibooaaDoorRaaz
import Derived.Test.YtphddemilibooaaDoorRabnxFnProp
import Derived.Test.YtphddemilibooaaDoorRabmxFnProp
import Derived.Test.YtphddemilibooaaDoorRaal
import Derived.Test.YtphddemilibooaaDoorRaav
namespace Go.Proofs.YtphddemilibooaaDoor
open Go.RowKit

set_option maxRecDepth 100000 in
theorem l7Power_any (k n : Nat) (hk : k ≤ 6) (hn : n ≤ 6) (w : World) :
    Calls Tryd.prog 51 #[.int .i64 (k : Int), .int .i64 (n : Int)] w fun e w' => e = .returned (.int .i64 ((k ^ n : Nat) : Int)) ∧ w = w' := by
  have hle : ∀ i, i ≤ n → k ^ i ≤ 46656 := fun i hi => Nat.le_trans (Nat.pow_le_pow_left hk i) (Nat.le_trans (Nat.pow_le_pow_right (n := 6) (by decide) (show i ≤ 6 by omega)) (by decide))
  have HLE := Lib.hid hle
  clear hle
  go_enter Tryd.func51, Tryd.ntmps51
  go_wp2
  go_loop [5, 6] (fun o i => ∃ j : Nat, j ≤ n ∧ i = .int .i64 (j : Int) ∧ o = .int .i64 ((k ^ j : Nat) : Int)) (fun _ i => n - (intOf i).toNat)
  case atStart => exact ⟨0, Nat.zero_le _, rfl, by simp⟩
  case round =>
    obtain ⟨j, hj, rfl, rfl⟩ := hrel
    have hP := HLE.out j hj
    by_cases hlt : j < n
    · have hji : (j : Int) < (n : Int) := by omega
      have hP2 := HLE.out (j + 1) hlt
      have hmul : ((k ^ j : Nat) : Int) * (k : Int) = ((k ^ (j + 1) : Nat) : Int) := by rw [Nat.pow_succ]; norm_cast
      obtain ⟨P, hPP⟩ : ∃ P, P = k ^ j := ⟨_, rfl⟩
      obtain ⟨P2, hPP2⟩ : ∃ P2, P2 = k ^ (j + 1) := ⟨_, rfl⟩
      rw [← hPP, ← hPP2] at hmul
      rw [← hPP] at hP ⊢
      rw [← hPP2] at hP2
      have HPP2 := Lib.hid hPP2
      have hP2I : (P2 : Int) ≤ 46656 := by omega
      have hP20 : (0 : Int) ≤ (P2 : Int) := by omega
      clear hPP hPP2
      go_wp2
      go_round
      case rel => exact ⟨j + 1, by omega, by go_num, by
        rw [← HPP2.out]⟩
      case measure => simp [intOf]; omega
    · obtain rfl : j = n := by omega
      go_wp2
      go_ret
      exact ⟨rfl, rfl⟩

set_option maxRecDepth 100000 in
set_option maxHeartbeats 2000000 in
theorem l7Colours_any (n k code : Nat) (hn1 : 1 ≤ n) (hn : n ≤ 6) (hk1 : 1 ≤ k) (hk : k ≤ 6) (hc : code ≤ 100000) (w : World) :
    Calls Tryd.prog 52 #[.int .i64 (n : Int), .int .i64 (k : Int), .int .i64 (code : Int)] w fun e w' => e = .returned (.slice (some ⟨w.heap.size, 0, none⟩) n n) ∧ Nums w' w.heap.size 3 (digs k n code) ∧ Below w.heap.size w w' := by
  have hmk := run_makeP n (by omega) w
  obtain ⟨W1, hW1, q1, hb1⟩ : ∃ W1, w.alloc (.cells (Array.replicate n (.int .i64 0)) 3) = W1 ∧ Nums W1 w.heap.size 3 (List.replicate n 0) ∧ Below w.heap.size w W1 :=
    ⟨_, rfl, by
      have := alloc_new w (.cells (Array.replicate n (.int .i64 0)) 3)
      unfold Nums HasBlk iv
      simpa using this, below1 w _⟩
  rw [hW1] at hmk
  have H0 : Hid (Nums W1 w.heap.size 3 (List.replicate n 0) ∧ Below w.heap.size w W1 ∧ (List.replicate n (0 : Int)).length = n ∧ digs k n code ++ (List.replicate n (0 : Int)).drop n = digs k n code) := Lib.hid ⟨q1, hb1, by simp, by simp⟩
  clear q1 hb1 hW1
  have hkI : (1 : Int) ≤ (k : Int) := by omega
  have hk6 : (k : Int) ≤ 6 := by omega
  have hcI : (code : Int) ≤ 100000 := by omega
  have hc0 : (0 : Int) ≤ (code : Int) := by omega
  go_enter Tryd.func52, Tryd.ntmps52
  go_wp2
  clear hmk
  go_loopw [2, 8] (fun s2 s8 wr => ∃ (j c' : Nat) (X : List Int), j ≤ n ∧ c' ≤ 100000 ∧ s8 = .int .i64 ((j : Int) - 1) ∧ s2 = .int .i64 (c' : Int) ∧ Hid (Nums wr w.heap.size 3 X ∧ Below w.heap.size w wr ∧ X.length = n ∧ digs k j c' ++ X.drop j = digs k n code)) (fun _ s8 _ => (intOf s8 + 1).toNat)
  case atStart => exact ⟨n, code, _, Nat.le_refl _, hc, rfl, rfl, H0⟩
  case round =>
    obtain ⟨j, c', X, hj, hc', rfl, rfl, HS⟩ := hrel
    have hc'I : (c' : Int) ≤ 100000 := by omega
    have hc'0 : (0 : Int) ≤ (c' : Int) := by omega
    cases j with
    | zero =>
      have hX : X = digs k n code := by have := HS.out.2.2.2; simpa [digs] using this
      have HR : Hid (Nums wr w.heap.size 3 (digs k n code) ∧ Below w.heap.size w wr) := Lib.hid ⟨by rw [← hX]; exact HS.out.1, HS.out.2.1⟩
      clear H0 HS hX
      go_wp2
      go_ret
      exact ⟨rfl, HR.out⟩
    | succ j =>
      have hjn : (j : Int) < (n : Int) := by omega
      have hj0 : (0 : Int) ≤ (j : Int) := by omega
      have e1 : (((j + 1 : Nat) : Int) - 1) = (j : Int) := by omega
      rw [e1]
      have hXl := HS.out.2.2.1
      have c1 := HS.out.1.cell j (by omega)
      have f1 := HS.out.1.frozen j
      have hrem : Int.tmod (c' : Int) (k : Int) = ((c' % k : Nat) : Int) := by rw [Int.ofNat_tmod]
      have hquo : Int.tdiv (c' : Int) (k : Int) = ((c' / k : Nat) : Int) := by rw [Int.ofNat_tdiv]
      have hr1 : c' % k < k := Nat.mod_lt _ (by omega)
      have hr2 : c' / k ≤ c' := Nat.div_le_self _ _
      obtain ⟨r, hr⟩ : ∃ r, r = c' % k := ⟨_, rfl⟩
      obtain ⟨q, hq⟩ : ∃ q, q = c' / k := ⟨_, rfl⟩
      have HR : Hid (Nums (wr.setCell ⟨w.heap.size, j, none⟩ (.int .i64 (r : Int))) w.heap.size 3 (X.set j (r : Int)) ∧ Below w.heap.size w (wr.setCell ⟨w.heap.size, j, none⟩ (.int .i64 (r : Int))) ∧ (X.set j (r : Int)).length = n ∧ digs k j q ++ (X.set j (r : Int)).drop j = digs k n code) := Lib.hid ⟨HS.out.1.set j _, HS.out.2.1.setCell (p := ⟨w.heap.size, j, none⟩) (Nat.le_refl _) _, by rw [List.length_set]; exact hXl, by
        rw [← HS.out.2.2.2, digs, ← hq, ← hr, List.append_assoc]
        congr 1
        rw [List.drop_eq_getElem_cons (by rw [List.length_set]; omega)]
        simp [List.drop_set]⟩
      rw [← hr] at hrem hr1
      rw [← hq] at hquo hr2
      have hrI : (r : Int) ≤ 6 := by omega
      have hr0 : (0 : Int) ≤ (r : Int) := by omega
      have hqI : (q : Int) ≤ 100000 := by omega
      have hq0 : (0 : Int) ≤ (q : Int) := by omega
      clear H0 HS hXl hr hq
      go_wp2
      go_roundw
      case rel => exact ⟨j, q, _, by omega, by omega, by go_num, by first | rfl | go_num | rw [hquo], by first | exact HR | (rw [← hrem] at HR; exact HR)⟩
      case measure => simp [intOf]

end Go.Proofs.YtphddemilibooaaDoor

/- It is proved that a family of chapter 5, drawn from bytes and written again, is the call's own; conditions: those of each statement. -/
namespace Go.Proofs.YtphddemilibooaaDoor
open Go.RowKit

theorem own_wr {w : World} {B : Nat} {a : Option Addr} {n c k : Nat} {zs : List Int} (h : OwnI w B (.slice a n c) zs) (hk : k < zs.length) :
    ∃ g, a = some ⟨g, 0, none⟩ ∧ B ≤ g ∧ g < w.heap.size ∧ w.cell? ⟨g, k, none⟩ = some (.int .i64 (zs[k]?.getD 0)) ∧ w.frozen? ⟨g, k, none⟩ = false ∧
      ∀ x, OwnI (w.setCell ⟨g, k, none⟩ (.int .i64 x)) B (.slice a n c) (zs.set k x) := by
  have h' := h
  rcases h.2 with ⟨h2, hn⟩ | ⟨g, cap, cur, e, hb, hg, hnc, hcm, hcs, hct⟩
  · omega
  · injection e with e1 e2 e3
    subst e1
    simp only [Nat.mul_one] at hct hcs
    have hcell : cur[k]? = some (.int .i64 (zs[k]?.getD 0)) := by
      have : (cur.toList.take zs.length)[k]? = (zs.map (Value.int .i64))[k]? := by rw [hct]
      rw [List.getElem?_take_of_lt hk, Array.getElem?_toList] at this
      rw [this, List.getElem?_map]
      simp [hk]
    refine ⟨g, rfl, hb, (Array.getElem?_eq_some_iff.1 hg).1, ?_, ?_, fun x => ?_⟩
    · exact (blk_cell hg k).trans hcell
    · exact blk_frozen hg _
    · refine ⟨by simp, .inr ⟨g, cap, cur.setIfInBounds k (.int .i64 x), by rw [List.length_set, e2, e3], hb, heap_setCell_same w g k cur 3 _ hg, by rw [List.length_set]; exact hnc, hcm, by simp [hcs], ?_⟩⟩
      rw [List.length_set, Nat.mul_one, Array.toList_setIfInBounds, List.take_set, hct, List.map_set]

end Go.Proofs.YtphddemilibooaaDoor

/- It is proved what l6eReduce returns; conditions: those of each statement. -/
namespace Go.Proofs.YtphddemilibooaaDoor
open Go.RowKit

theorem own_wr6 {w : World} {B : Nat} {a : Option Addr} {n c k : Nat} {zs : List Int} (h : OwnN w B a n c zs) (hk : k < n) :
    ∃ g, a = some ⟨g, 0, none⟩ ∧ B ≤ g ∧ g < w.heap.size ∧ w.cell? ⟨g, k, none⟩ = some (.int .i64 (zs[k]?.getD 0)) ∧ w.frozen? ⟨g, k, none⟩ = false ∧
      ∀ x, OwnN (w.setCell ⟨g, k, none⟩ (.int .i64 x)) B a n c (zs.set k x) := by
  have hl := h.len
  subst hl
  obtain ⟨g, h1, h2, h3, h4, h5, h6⟩ := own_wr h hk
  exact ⟨g, h1, h2, h3, h4, h5, fun x => by have := h6 x; unfold OwnI at this; rw [List.length_set] at this; exact this⟩

set_option maxRecDepth 100000 in
theorem bt_int_fin : ∀ z : Fin 64, ∀ v : Fin 6, bits .and .i64 ((z.val : Int) / 2 ^ v.val) 1 = if z.val.testBit v.val then 1 else 0 := by decide +kernel

theorem bt_int {z : Int} (h0 : 0 ≤ z) (hz : z.toNat < 64) {v : Nat} (hv : v < 6) : bits .and .i64 (z / 2 ^ v) 1 = if Bt v z then 1 else 0 := by
  have := bt_int_fin ⟨z.toNat, hz⟩ ⟨v, hv⟩
  simp only [Int.toNat_of_nonneg h0] at this
  exact this

end Go.Proofs.YtphddemilibooaaDoor

/- It is proved what the reference model's l7Mixed and l7Many return; conditions: those of each statement. -/
namespace Go.Proofs.YtphddemilibooaaDoor
open Go.RowKit

/-- The model's question, up to a member, and up to a pair. -/
def mixW (cs : List Int) (z : Int) (v w : Nat) : Bool := (List.range w).any fun w => Bt v z && Bt w z && (cs[v]?.getD 0 != cs[w]?.getD 0)

def mixV (cs : List Int) (z : Int) (v : Nat) : Bool := (List.range v).any fun v => mixW cs z v v
theorem mixW_succ (cs : List Int) (z : Int) (v w : Nat) : mixW cs z v (w + 1) = (mixW cs z v w || (Bt v z && Bt w z && (cs[v]?.getD 0 != cs[w]?.getD 0))) := by simp [mixW, List.range_succ]
theorem mixV_succ (cs : List Int) (z : Int) (v : Nat) : mixV cs z (v + 1) = (mixV cs z v || mixW cs z v v) := by simp [mixV, List.range_succ]
theorem allM_no {cs zs : List Int} {k : Nat} (hk : k < zs.length) (h : mixM cs (zs[k]?.getD 0) = false) : zs.all (mixM cs) = false := by
  rw [List.all_eq_false]
  refine ⟨zs[k], List.getElem_mem hk, ?_⟩
  rw [List.getElem?_eq_getElem hk, Option.getD_some] at h
  simp [h]

theorem allM_yes {cs zs : List Int} (h : ∀ j, j < zs.length → mixM cs (zs[j]?.getD 0) = true) : zs.all (mixM cs) = true := by
  rw [List.all_eq_true]
  intro z hz
  obtain ⟨j, hj, rfl⟩ := List.mem_iff_getElem.1 hz
  have := h j hj
  rwa [List.getElem?_eq_getElem hj, Option.getD_some] at this

set_option maxRecDepth 100000 in
set_option maxHeartbeats 8000000 in
theorem l7Mixed_any (n : Nat) (hn : n ≤ 6) (a : Option Addr) (c : Nat) (zs : List Int) (b : Option Addr) (d : Nat) (cs : List Int) (hcs : cs.length = n) (w : World) (ha : Ints w w.heap.size a zs) (hb : Ints w w.heap.size b cs) (hx : zs.length ≤ 1048576) (hz : ∀ z ∈ zs, 0 ≤ z ∧ z.toNat < 64) :
    Calls Tryd.prog 67 #[.slice a zs.length c, .slice b n d] w fun e w' => e = .returned (.bool (zs.all (mixM cs))) ∧ Below w.heap.size w w' := by
  obtain ⟨N, hN⟩ : ∃ N, N = zs.length := ⟨_, rfl⟩
  have HN := Lib.hid hN
  have HCS := Lib.hid hcs
  have HA := Lib.hid ha
  have HB := Lib.hid hb
  have HZ := Lib.hid hz
  rw [← hN]
  rw [← hN] at hx
  clear hN hcs ha hb hz
  go_enter Tryd.func67, Tryd.ntmps67
  go_wp2
  go_loopw [5, 6, 7, 8] (fun s5 _ _ _ wr => ∃ i : Nat, i ≤ N ∧ s5 = .int .i64 (i : Int) ∧ Hid ((∀ j, j < i → mixM cs (zs[j]?.getD 0) = true) ∧ Below w.heap.size w wr)) (fun s5 _ _ _ _ => N - (intOf s5).toNat)
  case atStart => exact ⟨0, Nat.zero_le _, rfl, Lib.hid ⟨fun j hj => by omega, Below.refl _ _⟩⟩
  case round =>
    obtain ⟨i, hi, rfl, HS⟩ := hrel
    obtain ⟨wo, rfl⟩ : ∃ wo, wo = wr := ⟨wr, rfl⟩
    by_cases hlt : i < N
    · have hiI : (i : Int) < (N : Int) := by omega
      have hi0 : (0 : Int) ≤ (i : Int) := by omega
      obtain ⟨ba, oa, rfl, hba, hca⟩ := HA.out.at_ (k := i) (by rw [← HN.out]; exact hlt)
      obtain ⟨z, hzz⟩ : ∃ z, z = zs[i]?.getD 0 := ⟨_, rfl⟩
      have hzm : z ∈ zs := by rw [hzz]; exact at_in (by rw [← HN.out]; exact hlt)
      obtain ⟨hz0, hz64⟩ := HZ.out z hzm
      have hz63 : z ≤ 63 := by omega
      rw [← hzz] at hca
      have HZZ := Lib.hid hzz
      have HV0 : Hid (Below wo.heap.size wo wo) := Lib.hid (Below.refl _ _)
      clear hzz hzm
      go_wp2
      go_loopw [6, 7, 8] (fun s6 s7 _ wv => ∃ v : Nat, v ≤ n ∧ s7 = .int .i64 (v : Int) ∧ s6 = .bool (mixV cs z v) ∧ Hid (Below wo.heap.size wo wv)) (fun _ s7 _ _ => n - (intOf s7).toNat)
      case atStart => exact ⟨0, Nat.zero_le _, rfl, by simp [mixV], HV0⟩
      case round =>
        obtain ⟨v, hv, rfl, rfl, HV⟩ := hrel
        obtain ⟨wv, rfl⟩ : ∃ wv, wv = wr := ⟨wr, rfl⟩
        by_cases hvn : v < n
        · have hvI : (v : Int) < (n : Int) := by omega
          have hv0 : (0 : Int) ≤ (v : Int) := by omega
          have hv6 : (v : Int) < 64 := by omega
          obtain ⟨bb, ob, rfl, hbb, hcb⟩ := HB.out.at_ (k := v) (by rw [HCS.out]; exact hvn)
          obtain ⟨x, hx1⟩ : ∃ x, x = cs[v]?.getD 0 := ⟨_, rfl⟩
          rw [← hx1] at hcb
          have HX := Lib.hid hx1
          have hbt := bt_int hz0 hz64 (show v < 6 by omega)
          have HBT := Lib.hid hbt
          have HW0 : Hid (mixV cs z v = (mixV cs z v || mixW cs z v 0)) := Lib.hid (by simp [mixW])
          clear hx1 hbt
          go_wp2
          go_loopw [6, 8] (fun s6 s8 ww => ∃ u : Nat, u ≤ v ∧ s8 = .int .i64 (u : Int) ∧ s6 = .bool (mixV cs z v || mixW cs z v u) ∧ Hid (Below wo.heap.size wo ww)) (fun _ s8 _ => v - (intOf s8).toNat)
          case atStart => exact ⟨0, Nat.zero_le _, rfl, by rw [← HW0.out], HV⟩
          case round =>
            obtain ⟨u, hu, rfl, rfl, HU⟩ := hrel
            by_cases huv : u < v
            · have huI : (u : Int) < (v : Int) := by omega
              have hu0 : (0 : Int) ≤ (u : Int) := by omega
              have hu6 : (u : Int) < 64 := by omega
              have hcu : w.cell? ⟨bb, ob + u, none⟩ = some (.int .i64 (cs[u]?.getD 0)) := by
                rcases HB.out with h | ⟨b', o', e, hb', hc'⟩
                · have := HCS.out; rw [h] at this; simp at this; omega
                · injection e with e; injection e with e1 e2; subst e1; subst e2
                  exact hc' u (by rw [HCS.out]; omega)
              obtain ⟨y, hy⟩ : ∃ y, y = cs[u]?.getD 0 := ⟨_, rfl⟩
              rw [← hy] at hcu
              have HY := Lib.hid hy
              have hall := HS.out.2.trans (HU.out.mono HS.out.2.size)
              have ca := (hall.cell (p := ⟨ba, oa + i, none⟩) hba).trans hca
              have cb := (hall.cell (p := ⟨bb, ob + v, none⟩) hbb).trans hcb
              have cu := (hall.cell (p := ⟨bb, ob + u, none⟩) hbb).trans hcu
              have hbv := HBT.out
              have hbu := bt_int hz0 hz64 (show u < 6 by omega)
              have HSU := Lib.hid (mixW_succ cs z v u)
              obtain ⟨M, hM⟩ : ∃ M, M = (mixV cs z v || mixW cs z v u) := ⟨_, rfl⟩
              have HM := Lib.hid hM
              rw [← hM]
              clear hy hM HW0 HV0
              cases h1 : Bt v z
              · have HE : Hid (M = (mixV cs z v || mixW cs z v (u + 1))) := Lib.hid (by rw [HSU.out, h1, HM.out]; simp)
                rw [h1] at hbv
                simp only [Bool.false_eq_true, if_false] at hbv
                clear h1 hbu
                go_wp2
                go_quiet (fail)
                go_wp2
                go_roundw
                case rel => exact ⟨u + 1, by omega, by go_num, by rw [HE.out], Lib.hid (below_drewN HU.out _)⟩
                case measure => simp [intOf]; omega
              · rw [h1] at hbv
                simp only [if_true] at hbv
                cases h2 : Bt u z
                · have HE : Hid (M = (mixV cs z v || mixW cs z v (u + 1))) := Lib.hid (by rw [HSU.out, h2, HM.out]; simp)
                  rw [h2] at hbu
                  simp only [Bool.false_eq_true, if_false] at hbu
                  clear h1 h2
                  go_wp2
                  go_quiet (fail)
                  go_wp2
                  go_roundw
                  case rel => exact ⟨u + 1, by omega, by go_num, by rw [HE.out], Lib.hid (below_drewN HU.out _)⟩
                  case measure => simp [intOf]; omega
                · rw [h2] at hbu
                  simp only [if_true] at hbu
                  by_cases hxy : x = y
                  · have HE : Hid (M = (mixV cs z v || mixW cs z v (u + 1))) := Lib.hid (by rw [HSU.out, ← HX.out, ← HY.out, hxy, HM.out]; simp)
                    subst hxy
                    clear h1 h2
                    go_wp2
                    go_quiet (fail)
                    go_wp2
                    go_roundw
                    case rel => exact ⟨u + 1, by omega, by go_num, by rw [HE.out], Lib.hid (below_drewN HU.out _)⟩
                    case measure => simp [intOf]; omega
                  · have HE : Hid (true = (mixV cs z v || mixW cs z v (u + 1))) := Lib.hid (by rw [HSU.out, h1, h2, ← HX.out, ← HY.out]; simp [hxy])
                    clear h1 h2
                    go_wp2
                    go_quiet (fail)
                    go_wp2
                    go_roundw
                    case rel => exact ⟨u + 1, by omega, by go_num, by rw [← HE.out], Lib.hid (below_drewN HU.out _)⟩
                    case measure => simp [intOf]; omega
            · obtain rfl : u = v := by omega
              have HE : Hid ((mixV cs z u || mixW cs z u u) = mixV cs z (u + 1)) := Lib.hid (mixV_succ cs z u).symm
              rw [HE.out]
              go_wp2
              go_roundw
              case rel => exact ⟨u + 1, by omega, by go_num, rfl, HU⟩
              case measure => simp [intOf]; omega
        · obtain rfl : v = n := by omega
          have HE : Hid (mixV cs z v = mixM cs z) := Lib.hid (by rw [← HCS.out]; rfl)
          have HBW : Hid (Below w.heap.size w wv) := Lib.hid (HS.out.2.trans (HV.out.mono HS.out.2.size))
          rw [HE.out]
          cases hm : mixM cs z
          · have HNO : Hid (zs.all (mixM cs) = false) := Lib.hid (allM_no (k := i) (by rw [← HN.out]; exact hlt) (by rw [← HZZ.out]; exact hm))
            clear hm
            go_wp2
            go_ret
            exact ⟨by rw [HNO.out]; rfl, HBW.out⟩
          · have HR : Hid ((∀ j, j < i + 1 → mixM cs (zs[j]?.getD 0) = true) ∧ Below w.heap.size w wv) := Lib.hid ⟨fun j hj => by
              rcases Nat.lt_succ_iff_lt_or_eq.1 hj with h | rfl
              · exact HS.out.1 j h
              · rw [← HZZ.out]; exact hm, HBW.out⟩
            clear hm
            go_wp2
            go_roundw
            case rel => exact ⟨i + 1, by omega, by go_num, HR⟩
            case measure => simp [intOf]; omega
    · obtain rfl : i = N := by omega
      have HR : Hid (zs.all (mixM cs) = true) := Lib.hid (allM_yes (by rw [← HN.out]; exact HS.out.1))
      go_wp2
      go_ret
      exact ⟨by rw [HR.out]; rfl, HS.out.2⟩

end Go.Proofs.YtphddemilibooaaDoor

/- It is proved what the reference model's l7Many, ColourMany and ColourFirst return; conditions: those of each statement. -/
namespace Go.Proofs.YtphddemilibooaaDoor
open Go.RowKit

theorem in_col (k l : Int) : inB k l 4 = colIn k l := by
  unfold colIn
  by_cases h1 : l ≤ k
  · by_cases h2 : k ≤ 4
    · rw [inB_true h1 h2]; simp [h1, h2]
    · rw [inB_false (.inr (by omega))]; simp [h2]
  · rw [inB_false (.inl (by omega))]; simp [h1]

theorem allM_mix {m : Nat} (hm : m ≤ 6) {zs : List Int} (hz : Sets m zs) {cs : List Int} (hc : cs.length = m) : zs.all (mixM cs) = mixB zs cs := by
  unfold mixB
  rw [Bool.eq_iff_iff, List.all_eq_true, List.all_eq_true]
  refine forall_congr' fun z => forall_congr' fun h => ?_
  rw [mixM_is (by omega) (by rw [hc]; exact (hz z h).2)]

/-- How many of the first lists are mixed. -/
def manyTo (m : Nat) (zs : List Int) (k j : Nat) : Nat := (List.range j).countP fun c => mixB zs (digs k m c)

theorem manyTo_succ (m : Nat) (zs : List Int) (k j : Nat) : manyTo m zs k (j + 1) = manyTo m zs k j + if mixB zs (digs k m j) then 1 else 0 := by
  unfold manyTo
  rw [List.range_succ, List.countP_append]
  cases h : mixB zs (digs k m j) <;> simp [h]

theorem manyTo_all (m : Nat) (zs : List Int) (k : Nat) : manyTo m zs k (k ^ m) = cntCM m zs k := by
  unfold manyTo cntCM
  rw [← digs_words, List.countP_map]
  rfl

theorem manyTo_le (m : Nat) (zs : List Int) (k j : Nat) : manyTo m zs k j ≤ j := by
  unfold manyTo
  exact Nat.le_trans List.countP_le_length (by simp)

theorem pow_le6 {k m : Nat} (hk : k ≤ 6) (hm : m ≤ 6) : k ^ m ≤ 46656 := Nat.le_trans (Nat.pow_le_pow_left hk m) (Nat.le_trans (Nat.pow_le_pow_right (n := 6) (by decide) hm) (by decide))
theorem kpos {k m j : Nat} (hm : 1 ≤ m) (h : j < k ^ m) : 1 ≤ k := by
  cases k with
  | zero => rw [Nat.zero_pow (by omega)] at h; omega
  | succ k => omega

set_option maxRecDepth 100000 in
set_option maxHeartbeats 4000000 in
theorem l7Many_any (m k : Nat) (hm1 : 1 ≤ m) (hm : m ≤ 6) (hk : k ≤ 6) (a : Option Addr) (c : Nat) (zs : List Int) (w : World) (ha : Ints w w.heap.size a zs) (hx : zs.length ≤ 1048576) (hz : Sets m zs) :
    Calls Tryd.prog 47 #[.agg #[.int .i64 (m : Int), .slice a zs.length c], .int .i64 (k : Int)] w fun e w' => e = .returned (.int .i64 ((cntCM m zs k : Nat) : Int)) ∧ Below w.heap.size w w' := by
  have hP := pow_le6 hk hm
  obtain ⟨P, hPP⟩ : ∃ P, P = k ^ m := ⟨_, rfl⟩
  have HP : Hid (∀ W, Calls Tryd.prog 51 #[.int .i64 (k : Int), .int .i64 (m : Int)] W fun e w' => e = .returned (.int .i64 (P : Int)) ∧ W = w') := Lib.hid fun W => by rw [hPP]; exact l7Power_any k m hk hm W
  have HPP := Lib.hid hPP
  rw [← hPP] at hP
  have hz64 : ∀ z ∈ zs, 0 ≤ z ∧ z.toNat < 64 := fun z h => ⟨(hz z h).1, p64 hm (hz z h).2⟩
  obtain ⟨W1, hW1, b0, hs1, hb1⟩ : ∃ W1, w.alloc (.cells #[.int .i64 (m : Int), .slice a zs.length c] 25) = W1 ∧ HasBlk W1 w.heap.size #[.int .i64 (m : Int), .slice a zs.length c] 25 ∧ W1.heap.size = w.heap.size + 1 ∧ Below w.heap.size w W1 := ⟨_, rfl, alloc_new w _, by simp, below1 w _⟩
  have HB1 := Lib.hid hb1
  have HI1 : Hid (Ints W1 W1.heap.size a zs) := Lib.hid ((ha.below hb1).mono (by omega))
  have HKEEP : Hid (∀ W, Below W1.heap.size W1 W → W.cell? ⟨w.heap.size, 0, none⟩ = some (.int .i64 (m : Int)) ∧ W.cell? ⟨w.heap.size, 1, none⟩ = some (.slice a zs.length c)) := Lib.hid fun W hW =>
    ⟨(hW.cell (p := ⟨w.heap.size, 0, none⟩) (show w.heap.size < W1.heap.size by omega)).trans ((blk_cell b0 0).trans (cell2_0 _ _)), (hW.cell (p := ⟨w.heap.size, 1, none⟩) (show w.heap.size < W1.heap.size by omega)).trans ((blk_cell b0 1).trans (cell2_1 _ _))⟩
  have HS1 := Lib.hid hs1
  have HZ := Lib.hid hz
  have HZ64 := Lib.hid hz64
  have HR0 : Hid (Below W1.heap.size W1 W1) := Lib.hid (Below.refl _ _)
  have hm1I : (1 : Int) ≤ (m : Int) := by omega
  have hm6I : (m : Int) ≤ 6 := by omega
  have hPI : (P : Int) ≤ 46656 := by omega
  clear ha b0 hs1 hb1 hPP hz hz64
  go_enter Tryd.func47, Tryd.ntmps47
  go_wp2
  clear hW1
  go_loopw [5, 6] (fun s5 s6 wr => ∃ j : Nat, j ≤ P ∧ s6 = .int .i64 (j : Int) ∧ s5 = .int .i64 ((manyTo m zs k j : Nat) : Int) ∧ Hid (Below W1.heap.size W1 wr)) (fun _ s6 _ => P - (intOf s6).toNat)
  case atStart => exact ⟨0, Nat.zero_le _, rfl, rfl, HR0⟩
  case round =>
    obtain ⟨j, hj, rfl, rfl, HB⟩ := hrel
    clear HR0
    obtain ⟨x0, x1⟩ := HKEEP.out _ HB.out
    have hMl := manyTo_le m zs k j
    obtain ⟨M, hM⟩ : ∃ M, M = manyTo m zs k j := ⟨_, rfl⟩
    have HM := Lib.hid hM
    rw [← hM] at hMl ⊢
    clear hM
    have hjI : (j : Int) ≤ 46656 := by omega
    have hj0 : (0 : Int) ≤ (j : Int) := by omega
    have hMI : (M : Int) ≤ 46656 := by omega
    have hM0 : (0 : Int) ≤ (M : Int) := by omega
    by_cases hlt : j < P
    · have hjP : (j : Int) < (P : Int) := by omega
      have hk1 : 1 ≤ k := kpos hm1 (by rw [← HPP.out]; exact hlt)
      have HCO : Hid (∀ W, Calls Tryd.prog 52 #[.int .i64 (m : Int), .int .i64 (k : Int), .int .i64 (j : Int)] W fun e w' => e = .returned (.slice (some ⟨W.heap.size, 0, none⟩) m m) ∧ Nums w' W.heap.size 3 (digs k m j) ∧ Below W.heap.size W w') := Lib.hid fun W => l7Colours_any m k j hm1 hm hk1 hk (by omega) W
      have HSU := Lib.hid (manyTo_succ m zs k j)
      have HMX : Hid (∀ W (g : Nat), Below W1.heap.size W1 W → Nums W g 3 (digs k m j) → Calls Tryd.prog 67 #[.slice a zs.length c, .slice (some ⟨g, 0, none⟩) m m] W fun e w' => e = .returned (.bool (mixB zs (digs k m j))) ∧ Below W.heap.size W w') := Lib.hid fun W g hW hn => by
        have := l7Mixed_any m hm a c zs (some ⟨g, 0, none⟩) m (digs k m j) (digs_len k m j) W (HI1.out.step hW) (ints_blk (show HasBlk W g (iv (digs k m j)) 3 from hn) _ hn.lt) hx HZ64.out
        rwa [allM_mix hm HZ.out (digs_len k m j)] at this
      have HRX := Lib.hid HB.out
      cases hmx : mixB zs (digs k m j)
      · have HF := Lib.hid hmx
        have HEE : Hid (manyTo m zs k (j + 1) = M) := Lib.hid (by have HE := HSU.out; rw [hmx, ← HM.out] at HE; simpa using HE)
        rw [hmx] at HMX
        clear hmx HSU
        go_wp2_with (go_at_call 51; refine (HP.out _).mono ?_; rintro e w2 ⟨rfl, rfl⟩)
        have hbz : Below W1.heap.size W1 wr.drew := HB.out.drew
        have HDR : Hid (∀ W, Below wr.heap.size wr.drew W → Below W1.heap.size W1 W) := Lib.hid fun W h => HB.out.drew.trans (h.mono HB.out.size)
        go_region_held3 (fun w' => w'.cell? ⟨w.heap.size, 0, none⟩ = some (.int .i64 (m : Int)) ∧ w'.cell? ⟨w.heap.size, 1, none⟩ = some (.slice a zs.length c))
          (first | exact ⟨x0, x1⟩ | exact HKEEP.out _ (by assumption))
          (first
            | (go_at_call 52; refine (HCO.out _).mono ?_; rintro e w3 ⟨rfl, hn3, hb3⟩; have hb31 := HDR.out _ hb3; have HN3 := Lib.hid hn3)
            | (go_at_call 67; refine (HMX.out _ _ (by assumption) HN3.out).mono ?_; rintro e w4 ⟨rfl, hb4⟩; have HB4 := Lib.hid (hb31.trans (hb4.mono hb31.size))))
        all_goals
          go_wp2
          go_roundw
          case rel => exact ⟨j + 1, by omega, by go_num, by rw [HEE.out], HB4⟩
          case measure => simp [intOf]; omega
      · have HF := Lib.hid hmx
        have HEE : Hid (manyTo m zs k (j + 1) = M + 1) := Lib.hid (by have HE := HSU.out; rw [hmx, ← HM.out] at HE; simpa using HE)
        rw [hmx] at HMX
        clear hmx HSU
        go_wp2_with (go_at_call 51; refine (HP.out _).mono ?_; rintro e w2 ⟨rfl, rfl⟩)
        have hbz : Below W1.heap.size W1 wr.drew := HB.out.drew
        have HDR : Hid (∀ W, Below wr.heap.size wr.drew W → Below W1.heap.size W1 W) := Lib.hid fun W h => HB.out.drew.trans (h.mono HB.out.size)
        go_region_held3 (fun w' => w'.cell? ⟨w.heap.size, 0, none⟩ = some (.int .i64 (m : Int)) ∧ w'.cell? ⟨w.heap.size, 1, none⟩ = some (.slice a zs.length c))
          (first | exact ⟨x0, x1⟩ | exact HKEEP.out _ (by assumption))
          (first
            | (go_at_call 52; refine (HCO.out _).mono ?_; rintro e w3 ⟨rfl, hn3, hb3⟩; have hb31 := HDR.out _ hb3; have HN3 := Lib.hid hn3)
            | (go_at_call 67; refine (HMX.out _ _ (by assumption) HN3.out).mono ?_; rintro e w4 ⟨rfl, hb4⟩; have HB4 := Lib.hid (hb31.trans (hb4.mono hb31.size))))
        all_goals
          go_wp2
          go_roundw
          case rel => exact ⟨j + 1, by omega, by go_num, by rw [HEE.out]; go_num, HB4⟩
          case measure => simp [intOf]; omega
    · obtain rfl : j = P := by omega
      have HE : Hid (M = cntCM m zs k) := Lib.hid (by rw [HM.out, HPP.out, manyTo_all])
      have HR : Hid (Below w.heap.size w wr) := Lib.hid (HB1.out.trans (HB.out.mono (by have := HS1.out; omega)))
      go_wp2_with (go_at_call 51; refine (HP.out _).mono ?_; rintro e w2 ⟨rfl, rfl⟩)
      go_ret
      exact ⟨by rw [← HE.out]; rfl, HR.out⟩

end Go.Proofs.YtphddemilibooaaDoor
