/- It is proved what AlikeLeast of the program returns; conditions: those of each statement. -/
import Derived.RowKit
import Derived.Laws.CopyRow
import Derived.Lib.SlBuf
import Derived.Deep.QuietTactic
import Derived.RangeFuncNested
import Derived.RangeFuncBound
import Derived.RangeFuncCalls
import Derived.RangeFuncLeaves
import Derived.RangeFuncBox
import Derived.RangeFuncWrites
import Derived.StillTailTactics
import Derived.Maps.OwnIn
import Derived.Maps.Ext
import Derived.DeepKeys4
import Derived.MapKept
import Derived.Test.YtjclfpcnfmpjdaaDoorRows
import Derived.WalkKit
import Derived.WalkSpells
import Derived.ProofKit
import Derived.OpenShut
import Derived.ShutString
import Derived.ChangeOld
import Derived.Below
import Derived.Deep.RegionHeld3
import Derived.BigQuiet
import Derived.Lib.Hide
import Derived.Lib.SmallJoins
import Derived.Outline
import Derived.Laws.MakeOwn
import Derived.Laws.OwnMore
import Derived.IntWalk
import Derived.Maps.AppendAt
import Derived.Sort.MapsRangeIn
import Derived.Lib.AppendZeros
import Derived.Deep.AppendLies
import Derived.OwnWalk
import Derived.Lib.SlicesCompact
import Derived.Lib.OwnBridge
import Derived.OrdersIn
import Derived.TacticsIn
import Derived.Shelf.Sort.Plain
import Derived.Shelf.Slices.In.SortNone
import Derived.Shelf.Slices.CompactI
import Derived.Ground.Names2Prog
import Derived.Shelf.Abstract
import Derived.Shelf.RegionOpen
import Derived.OwnWalkIn
import Derived.TacticsInMore
import Derived.LoopNIn
import Derived.LoopIn
import Derived.StillTail
import Derived.StillTactics
import Derived.Shelf.Spec.TrailingZeros
import Derived.Test.YtjclfpcnfmpjdaaDoorMsa
import Derived.Test.YtjclfpcnfmpjdaaDoorMsb
import Derived.Test.YtjclfpcnfmpjdaaDoorBv
import Derived.Test.YtjclfpcnfmpjdaaDoorBw
import Derived.Test.YtjclfpcnfmpjdaaDoorCa
import Derived.Test.YtjclfpcnfmpjdaaDoorCb
import Derived.Test.YtjclfpcnfmpjdaaDoorHr
namespace Go.Proofs.YtjclfpcnfmpjdaaDoor
open Go.RowKit Go.Shelf Go.Maps

set_option maxRecDepth 100000 in
set_option maxHeartbeats 4000000 in
theorem implALeast_no (m : Int) (a : Option Addr) (c : Nat) (zs : List Int) (w : World) (ha : Ints w w.heap.size a zs) (hx : zs.length ≤ 1048576) (hf : famIn m zs = false) :
    Calls Tryd.prog 19 #[.agg #[.int .i64 m, .slice a zs.length c]] w (RetFB w 0 [] false) := by
  have HB0 := Lib.hid (below2 w (.cells #[.int .i64 m, .slice a zs.length c] 25) (.cells #[.int .i64 0, .slice none 0 0] 25))
  have HA := Lib.hid (ha.below HB0.out)
  have HF := Lib.hid hf
  clear hf ha
  go_enter Tryd.func19, Tryd.ntmps19
  go_wp2_with fail
  refine (implFamilyIn_any _ _ _ zs _ (HA.out.mono (by simp; omega)) hx).mono ?_
  rintro e w1 ⟨rfl, hb⟩
  rw [HF.out]
  have b2 : w1.heap[w.heap.size + 1]? = some (.cells #[.int .i64 0, .slice none 0 0] 25 (0, 0)) := (hb.block _ (by simp)).trans (alloc2_1 w _ _)
  have d0 := blk_cell b2 0
  have d1 := blk_cell b2 1
  have f0 := blk_frozen b2 0
  have f1 := blk_frozen b2 1
  simp only [cell2_0, cell2_1] at d0 d1
  have HB := Lib.hid (HB0.out.trans (hb.mono (by simp; omega)))
  clear hb b2
  go_wp2
  refine bodyPost_ret (v := .tuple #[.agg #[.int .i64 0, .slice none 0 0], .bool false]) (by simp [results, Tryd.results19, go_sem, d0, d1]) rfl ?_
  exact ⟨none, 0, rfl, own_nil _ _, (HB.out.setCell (p := ⟨w.heap.size + 1, 0, none⟩) (by simp) _).setCell (p := ⟨w.heap.size + 1, 1, none⟩) (by simp) _⟩

/-- How far the last region of AlikeLeast has come: the world at each stage. -/
def StL (w w1 wm : World) (k n : Nat) (L : List Int) (ls : Array Bool) (ca : Option Addr) (cc : Nat) (w' : World) : Prop :=
  ((ls.getD 3 false = true → ls.getD 1 false = true ∧ ls.getD 2 false = true) ∧ (ls.getD 4 false = true → ls.getD 3 false = true ∧ ls.getD 0 false = true) ∧ (ls.getD 5 false = true → ls.getD 4 false = true) ∧ (ls.getD 6 false = true → ls.getD 5 false = true)) ∧
  (bif ls.getD 5 false then (OwnN w' w1.heap.size ca n cc L ∧ Below w.heap.size w w' ∧ w'.cell? ⟨w.heap.size + 1, 0, none⟩ = some (.int .i64 (k : Int)) ∧ w'.cell? ⟨w.heap.size + 1, 1, none⟩ = some (.slice ca n cc))
    else bif ls.getD 4 false then (OwnN w' w1.heap.size ca n cc L ∧ Below w1.heap.size w1 w')
    else bif ls.getD 3 false then Below w1.heap.size w1 w'
    else bif ls.getD 1 false then w' = wm
    else w' = w1.drew)

set_option maxRecDepth 100000 in
set_option maxHeartbeats 8000000 in
theorem implALeast_yes (k : Nat) (hk0 : 1 ≤ k) (hk6 : k ≤ 6) (a : Option Addr) (c : Nat) (zs : List Int) (w : World) (ha : Ints w w.heap.size a zs) (hT : Tab w) (hx : zs.length ≤ 1048576) (hf : famIn (k : Int) zs = true) :
    Calls Tryd.prog 19 #[.agg #[.int .i64 (k : Int), .slice a zs.length c]] w (RetFB w (k : Int) (lstP zs (firstN k zs)) true) := by
  obtain ⟨hm1, hm6, hl8, -⟩ := famIn_out hf
  have hb1 := below2 w (.cells #[.int .i64 (k : Int), .slice a zs.length c] 25) (.cells #[.int .i64 0, .slice none 0 0] 25)
  have HA := Lib.hid (ha.below hb1)
  have HF := Lib.hid hf
  have hT1 := hT.lt
  have HT := Lib.hid (hT.below hb1 hT1)
  have HB1 := Lib.hid hb1
  obtain ⟨K, hK⟩ : ∃ K, K = keyL zs (nI (firstN k zs)) := ⟨_, rfl⟩
  have hK8 : K.length = 8 := by rw [hK]; exact keyL_len _ _ (by omega)
  have HTK : Hid (K.take zs.length = lstP zs (firstN k zs)) := Lib.hid (by rw [hK, keyL_lst, List.take_left' (lstP_len _ _)])
  have HK := Lib.hid hK
  have hmm := @run_makeMap Tryd.prog
  have hmx : Tryd.prog.follows .mixedOrders = true := by kernel_rfl
  clear hf ha hT hb1 hK
  refine (callsIn_wide (n := 6)).1 ?_
  refine callsIn_of_wp Tryd.func19 rfl trivial ?_ rfl
  simp only [Tryd.ntmps19, List.size_toArray, List.length_cons, List.length_nil, Nat.reduceAdd, Nat.reduceSub, Array.replicate_succ, Array.replicate_zero, List.push_toArray, List.append_toArray, List.nil_append, List.cons_append]
  gi_wp2_with fail
  refine ⟨trivial, (callsIn_wide.2 (implFamilyIn_any _ _ _ zs _ (HA.out.mono (by simp; omega)) hx)).mono ?_⟩
  rintro e w1 ⟨rfl, hb⟩
  rw [HF.out]
  have q0 : HasBlk w1 w.heap.size #[.int .i64 (k : Int), .slice a zs.length c] 25 := (hb.block _ (by simp; omega)).trans (alloc2_0 w _ _)
  have q1 : HasBlk w1 (w.heap.size + 1) #[.int .i64 0, .slice none 0 0] 25 := (hb.block _ (by simp)).trans (alloc2_1 w _ _)
  have hs1 : w.heap.size + 1 + 1 ≤ w1.heap.size := by have := hb.size; simpa using this
  have hbw : Below w.heap.size w w1 := HB1.out.trans (hb.mono (by simp; omega))
  have hTw : Tab w1 := HT.out.below hb HT.out.lt
  have hIw : Ints w1 w.heap.size a zs := HA.out.below (hb.mono (by simp; omega))
  have hbm : Below w1.heap.size w1 (w1.drew.alloc (.map #[] 0)) := (Below.refl _ w1).drew.alloc (Nat.le_refl _) _
  have x0 := (blk_cell q0 0).trans (cell2_0 _ _)
  have x1 := (blk_cell q0 1).trans (cell2_1 _ _)
  have hsm : w1.heap.size < (w1.drew.alloc (.map #[] 0)).heap.size := by simp
  have hown : OwnT (w1.drew.alloc (.map #[] 0)) w1.heap.size 0 (.map []) := World.ownsMap_made w1.drew _ _ _
  obtain ⟨wm, hwm⟩ : ∃ wm, w1.drew.alloc (.map #[] 0) = wm := ⟨_, rfl⟩
  have HWM := Lib.hid hwm
  rw [hwm] at hbm hown hsm
  have hLO := leastOf_any k hk0 hk6 a c zs wm ((hIw.below (hbm.mono (by omega))).mono (by omega)) (hTw.below hbm hTw.lt) HF.out w1.heap.size 0 (.map []) (by omega) hown
  rw [← HK.out] at hLO
  obtain ⟨v0, v1, v2, v3, v4, v5, v6, v7, hv⟩ := eight hK8
  rw [hv, show iv [v0, v1, v2, v3, v4, v5, v6, v7] = #[.int .i64 v0, .int .i64 v1, .int .i64 v2, .int .i64 v3, .int .i64 v4, .int .i64 v5, .int .i64 v6, .int .i64 v7] from rfl] at hLO
  have hLS : ∀ W, Calls Tryd.prog 58 #[.agg #[.int .i64 (k : Int), .slice a zs.length c], .agg #[.int .i64 v0, .int .i64 v1, .int .i64 v2, .int .i64 v3, .int .i64 v4, .int .i64 v5, .int .i64 v6, .int .i64 v7]] W fun e w' => ∃ a' c', e = .returned (.agg #[.int .i64 (k : Int), .slice a' zs.length c']) ∧ OwnN w' W.heap.size a' zs.length c' (lstP zs (firstN k zs)) ∧ Below W.heap.size W w' := fun W => by
    have h := listed_any k zs.length (by omega) a c K hK8 W
    rw [HTK.out, hv, show iv [v0, v1, v2, v3, v4, v5, v6, v7] = #[.int .i64 v0, .int .i64 v1, .int .i64 v2, .int .i64 v3, .int .i64 v4, .int .i64 v5, .int .i64 v6, .int .i64 v7] from rfl] at h
    exact h
  have HQ0 := Lib.hid q0
  have HQ1 := Lib.hid q1
  have HBW := Lib.hid hbw
  have HBM := Lib.hid hbm
  have HLS := Lib.hid hLS
  have HLO := Lib.hid hLO
  have HX0 := Lib.hid x0
  have HX1 := Lib.hid x1
  have HSM := Lib.hid hsm
  clear hb q0 q1 hbw hTw hIw hbm hown hLS hv hK8 hwm hLO x0 x1 hsm
  gi_wp2_with fail
  refine wpIn_region_rel (R := fun ls a' w' => ∃ (ca : Option Addr) (cc : Nat), a' = { tmps := #[.agg #[.int .i64 (k : Int), .slice a zs.length c], .pointer (some ⟨w.heap.size, 0, none⟩), .pointer (some ⟨w.heap.size + 1, 0, none⟩), .bool (ls.getD 6 false), .agg #[.int .i64 (k : Int), .slice a zs.length c], .bool true, .bool false, undef,
      bif ls.getD 0 false then .agg #[.int .i64 (k : Int), .slice a zs.length c] else undef, bif ls.getD 1 false then .map (some w1.heap.size) else undef, bif ls.getD 2 false then .agg #[.int .i64 (k : Int), .slice a zs.length c] else undef,
      bif ls.getD 3 false then .agg #[.int .i64 v0, .int .i64 v1, .int .i64 v2, .int .i64 v3, .int .i64 v4, .int .i64 v5, .int .i64 v6, .int .i64 v7] else undef, bif ls.getD 4 false then .agg #[.int .i64 (k : Int), .slice ca zs.length cc] else undef], defers := [] } ∧ StL w w1 wm k zs.length (lstP zs (firstN k zs)) ls ca cc w') hmx (by kernel_rfl) ⟨none, 0, rfl, ⟨⟨(by simp), (by simp), (by simp), (by simp)⟩, rfl⟩⟩ ?step ?fin
  case step =>
    rintro listed a' W' i hsz hi ⟨ca, cc, rfl, hdep, hS⟩
    obtain ⟨l0, l1, l2, l3, l4, l5, l6, rfl⟩ := arr7 listed hsz
    obtain ⟨hi1, hi2⟩ := List.mem_filter.1 hi
    have hi7 : i < 7 := by simpa using hi1
    have hcase : i = 0 ∨ i = 1 ∨ i = 2 ∨ i = 3 ∨ i = 4 ∨ i = 5 ∨ i = 6 := by omega
    simp at hdep
    obtain ⟨hd3, hd4, hd5, hd6⟩ := hdep
    rcases hcase with rfl | rfl | rfl | rfl | rfl | rfl | rfl
    · simp [Region.binds] at hi2
      subst hi2
      have h4 : l4 = false := by
        cases l4 with
        | false => rfl
        | true => exact absurd (hd4 rfl).2 (by simp)
      subst h4
      have h5 : l5 = false := by
        cases l5 with
        | false => rfl
        | true => exact absurd (hd5 rfl) (by simp)
      subst h5
      have h6 : l6 = false := by
        cases l6 with
        | false => rfl
        | true => exact absurd (hd6 rfl) (by simp)
      subst h6
      have hB : Below w1.heap.size w1 W' := by
        cases l3 <;> cases l1 <;> simp at hS
        all_goals first | exact hS | (rw [hS]; exact HBM.out) | (rw [hS]; exact (Below.refl _ _).drew)
      have y0 := (hB.cell (p := ⟨w.heap.size, 0, none⟩) (show w.heap.size < w1.heap.size by omega)).trans HX0.out
      have y1 := (hB.cell (p := ⟨w.heap.size, 1, none⟩) (show w.heap.size < w1.heap.size by omega)).trans HX1.out
      refine wpOpIn_of_list rfl ?_
      gi_wp2
      first | exact ⟨ca, cc, rfl, ⟨hd3, (fun h => by cases h), (fun h => by cases h), (fun h => by cases h)⟩, hS⟩ | exact ⟨rfl, ca, cc, ⟨hd3, (fun h => by cases h), (fun h => by cases h), (fun h => by cases h)⟩, hS⟩
    · simp [Region.binds] at hi2
      subst hi2
      have h3 : l3 = false := by
        cases l3 with
        | false => rfl
        | true => exact absurd (hd3 rfl).1 (by simp)
      subst h3
      have h4 : l4 = false := by
        cases l4 with
        | false => rfl
        | true => exact absurd (hd4 rfl).1 (by simp)
      subst h4
      have h5 : l5 = false := by
        cases l5 with
        | false => rfl
        | true => exact absurd (hd5 rfl) (by simp)
      subst h5
      have h6 : l6 = false := by
        cases l6 with
        | false => rfl
        | true => exact absurd (hd6 rfl) (by simp)
      subst h6
      have hW : W' = w1.drew := hS
      subst hW
      refine wpOpIn_of_list rfl ?_
      gi_wp2
      first | exact ⟨ca, cc, rfl, ⟨(fun h => by cases h), (fun h => by cases h), (fun h => by cases h), (fun h => by cases h)⟩, HWM.out⟩ | exact ⟨rfl, ca, cc, ⟨(fun h => by cases h), (fun h => by cases h), (fun h => by cases h), (fun h => by cases h)⟩, HWM.out⟩
    · simp [Region.binds] at hi2
      subst hi2
      have h3 : l3 = false := by
        cases l3 with
        | false => rfl
        | true => exact absurd (hd3 rfl).2 (by simp)
      subst h3
      have h4 : l4 = false := by
        cases l4 with
        | false => rfl
        | true => exact absurd (hd4 rfl).1 (by simp)
      subst h4
      have h5 : l5 = false := by
        cases l5 with
        | false => rfl
        | true => exact absurd (hd5 rfl) (by simp)
      subst h5
      have h6 : l6 = false := by
        cases l6 with
        | false => rfl
        | true => exact absurd (hd6 rfl) (by simp)
      subst h6
      have hB : Below w1.heap.size w1 W' := by
        cases l1 <;> simp at hS
        all_goals first | exact hS | (rw [hS]; exact HBM.out) | (rw [hS]; exact (Below.refl _ _).drew)
      have y0 := (hB.cell (p := ⟨w.heap.size, 0, none⟩) (show w.heap.size < w1.heap.size by omega)).trans HX0.out
      have y1 := (hB.cell (p := ⟨w.heap.size, 1, none⟩) (show w.heap.size < w1.heap.size by omega)).trans HX1.out
      refine wpOpIn_of_list rfl ?_
      gi_wp2
      first | exact ⟨ca, cc, rfl, ⟨(fun h => by cases h), (fun h => by cases h), (fun h => by cases h), (fun h => by cases h)⟩, hS⟩ | exact ⟨rfl, ca, cc, ⟨(fun h => by cases h), (fun h => by cases h), (fun h => by cases h), (fun h => by cases h)⟩, hS⟩
    · simp [Region.binds] at hi2
      obtain ⟨rfl, rfl, rfl⟩ := hi2
      have h4 : l4 = false := by
        cases l4 with
        | false => rfl
        | true => exact absurd (hd4 rfl).1 (by simp)
      subst h4
      have h5 : l5 = false := by
        cases l5 with
        | false => rfl
        | true => exact absurd (hd5 rfl) (by simp)
      subst h5
      have h6 : l6 = false := by
        cases l6 with
        | false => rfl
        | true => exact absurd (hd6 rfl) (by simp)
      subst h6
      have hW : W' = wm := hS
      subst hW
      refine wpOpIn_of_list rfl ?_
      gi_wp2_with (refine ⟨trivial, ?_⟩; gi_at_call 47; refine (callsIn_wide.2 HLO.out).mono ?_; rintro e w3 ⟨rfl, -, hb3⟩)
      first | exact ⟨ca, cc, rfl, ⟨(fun _ => ⟨rfl, rfl⟩), (fun h => by cases h), (fun h => by cases h), (fun h => by cases h)⟩, HBM.out.trans (hb3.below (B := w1.heap.size) (by have := HSM.out; omega) (fun i e => by omega))⟩ | exact ⟨rfl, ca, cc, ⟨(fun _ => ⟨rfl, rfl⟩), (fun h => by cases h), (fun h => by cases h), (fun h => by cases h)⟩, HBM.out.trans (hb3.below (B := w1.heap.size) (by have := HSM.out; omega) (fun i e => by omega))⟩
    · simp [Region.binds] at hi2
      obtain ⟨rfl, rfl, rfl⟩ := hi2
      have h5 : l5 = false := by
        cases l5 with
        | false => rfl
        | true => exact absurd (hd5 rfl) (by simp)
      subst h5
      have h6 : l6 = false := by
        cases l6 with
        | false => rfl
        | true => exact absurd (hd6 rfl) (by simp)
      subst h6
      have hB : Below w1.heap.size w1 W' := hS
      obtain ⟨rfl, rfl⟩ := hd3 rfl
      refine wpOpIn_of_list rfl ?_
      gi_wp2_with (refine ⟨trivial, ?_⟩; gi_at_call 58; refine (callsIn_wide.2 (HLS.out W')).mono ?_; rintro e w4 ⟨ca', cc', rfl, ho, hb4⟩)
      exact ⟨ca', cc', rfl, ⟨(fun _ => ⟨rfl, rfl⟩), (fun _ => ⟨rfl, rfl⟩), (fun h => by cases h), (fun h => by cases h)⟩, ho.base hB.size, hB.trans (hb4.mono hB.size)⟩
    · simp [Region.binds] at hi2
      obtain ⟨rfl, rfl, rfl, rfl, rfl, rfl, -⟩ := hi2
      have h6 : l6 = false := by
        cases l6 with
        | false => rfl
        | true => exact absurd (hd6 rfl) (by simp)
      subst h6
      obtain ⟨ho, hB⟩ : OwnN W' w1.heap.size ca zs.length cc (lstP zs (firstN k zs)) ∧ Below w1.heap.size w1 W' := hS
      have b2 : HasBlk W' (w.heap.size + 1) #[.int .i64 0, .slice none 0 0] 25 := (hB.block _ (by omega)).trans HQ1.out
      have d0 := (blk_cell b2 0).trans (cell2_0 _ _)
      have d1 := (blk_cell b2 1).trans (cell2_1 _ _)
      have f0 := blk_frozen b2 0
      have f1 := blk_frozen b2 1
      refine wpOpIn_of_list rfl ?_
      gi_wp2
      refine ⟨ca, cc, rfl, ⟨(fun _ => ⟨rfl, rfl⟩), (fun _ => ⟨rfl, rfl⟩), (fun _ => rfl), (fun h => by cases h)⟩, ?_, ?_, ?_, ?_⟩
      · exact ownsRow_setCell_below (ownsRow_setCell_below ho (by simp; omega) _) (by simp; omega) _
      · exact ((HBW.out.trans (hB.mono (by omega))).setCell (p := ⟨w.heap.size + 1, 0, none⟩) (by simp) _).setCell (p := ⟨w.heap.size + 1, 1, none⟩) (by simp) _
      · simp [go_sem, d0, d1]
      · simp [go_sem, d0, d1]
    · simp [Region.binds] at hi2
      obtain ⟨rfl, rfl, rfl, rfl, rfl, rfl, -, -⟩ := hi2
      refine wpOpIn_of_list rfl ?_
      gi_wp2
      first | exact ⟨ca, cc, rfl, ⟨(fun _ => ⟨rfl, rfl⟩), (fun _ => ⟨rfl, rfl⟩), (fun _ => rfl), (fun _ => rfl)⟩, hS⟩ | exact ⟨rfl, ca, cc, ⟨(fun _ => ⟨rfl, rfl⟩), (fun _ => ⟨rfl, rfl⟩), (fun _ => rfl), (fun _ => rfl)⟩, hS⟩
  case fin =>
    rintro listed a' W' hsz hal ⟨ca, cc, rfl, hdep, hS⟩
    obtain ⟨l0, l1, l2, l3, l4, l5, l6, rfl⟩ := arr7 listed hsz
    simp at hal
    obtain ⟨rfl, rfl, rfl, rfl, rfl, rfl, rfl⟩ := hal
    obtain ⟨ho, hB, c0, c1⟩ : OwnN W' w1.heap.size ca zs.length cc (lstP zs (firstN k zs)) ∧ Below w.heap.size w W' ∧ W'.cell? ⟨w.heap.size + 1, 0, none⟩ = some (.int .i64 (k : Int)) ∧ W'.cell? ⟨w.heap.size + 1, 1, none⟩ = some (.slice ca zs.length cc) := hS
    gi_wp2
    refine bodyPost_ret (v := .tuple #[.agg #[.int .i64 (k : Int), .slice ca zs.length cc], .bool true]) (by simp [results, Tryd.results19, go_sem, c0, c1]) rfl ?_
    refine ⟨ca, cc, by rw [lstP_len], ?_, hB⟩
    unfold OwnI
    rw [lstP_len]
    exact ho.base (by omega)

theorem implALeast_any (m : Int) (a : Option Addr) (c : Nat) (zs : List Int) (w : World) (ha : Ints w w.heap.size a zs) (hT : Tab w) (hx : zs.length ≤ 1048576) :
    Calls Tryd.prog 19 #[.agg #[.int .i64 m, .slice a zs.length c]] w (RetFB w (aleastM m zs) (aleastL m zs) (famIn m zs)) := by
  unfold aleastM aleastL
  cases h : famIn m zs
  · exact implALeast_no m a c zs w ha hx h
  · obtain ⟨hm1, hm6, -, -⟩ := famIn_out h
    obtain ⟨k, rfl⟩ : ∃ k : Nat, m = (k : Int) := ⟨m.toNat, by omega⟩
    exact implALeast_yes k (by omega) (by omega) a c zs w ha hT hx h

end Go.Proofs.YtjclfpcnfmpjdaaDoor
