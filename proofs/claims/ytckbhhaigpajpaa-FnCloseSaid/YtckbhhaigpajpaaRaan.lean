/- It is proved what slices.Sort and slices.Compact do with a list of the call's own; conditions: those of each statement. -/
import Derived.Shelf.Sort.Plain
import Derived.Shelf.Slices.In.SortNone
import Derived.Shelf.Slices.CompactI
import Derived.Ground.Names2Prog
import Derived.Lib.OwnBridge
import Derived.Test.YtckbhhaigpajpaaRows
import Derived.WalkKit
import Derived.WalkSpells
import Derived.ProofKit
import Derived.OpenShut
import Derived.ShutString
import Derived.ChangeOld
import Derived.Below
import Derived.Deep.RegionHeld3
import Derived.Deep.QuietTactic
import Derived.BigQuiet
import Derived.Lib.Hide
import Derived.Lib.SmallJoins
import Derived.Outline
import Derived.Laws.MakeOwn
import Derived.Laws.OwnMore
import Derived.IntWalk
import Derived.Lib.AppendZeros
import Derived.Maps.AppendAt
import Derived.Deep.AppendLies
import Derived.OwnWalk
import Derived.Lib.SlicesCompact
import Derived.RangeFuncNested
import Derived.RangeFuncBound
import Derived.RangeFuncCalls
import Derived.RangeFuncLeaves
import Derived.RangeFuncBox
import Derived.Shelf.Abstract
import Derived.Shelf.RegionOpen
import Derived.OwnWalkIn
import Derived.TacticsInMore
import Derived.LoopNIn
import Derived.LoopIn
import Derived.Test.YtckbhhaigpajpaaRaam
import Derived.Test.YtckbhhaigpajpaaRaac
import Derived.Test.YtckbhhaigpajpaaRaaf
import Derived.Test.YtckbhhaigpajpaaRaaa
import Derived.Test.YtckbhhaigpajpaaRaab
import Derived.Test.YtckbhhaigpajpaaRaai
namespace Go.Proofs.Ytckbhhaigpajpaa
open Go.RowKit

/- The numbers that the library's functions have in this program. -/
def sortLays_ren : Go.Shelf.Ren := ⟨fun | 189 => 42 | 125 => 48 | 257 => 47 | 128 => 60 | 129 => 61 | 294 => 51 | 295 => 52 | 296 => 53 | 297 => 54 | 298 => 55 | 299 => 56 | 216 => 57 | 300 => 58 | 301 => 59 | 328 => 62 | 329 => 63 | 330 => 64 | 331 => 65 | 332 => 66 | 215 => 67 | 343 => 68 | n => n, fun | 28 => 23 | 3 => 3 | 46 => 73 | 0 => 0 | 51 => 83 | 53 => 85 | 4 => 4 | 183 => 77 | 182 => 76 | 131 => 30 | 5 => 5 | 9 => 9 | 218 => 86 | 222 => 90 | 228 => 93 | 229 => 94 | n => n, fun | n => n⟩
theorem sortLays : Go.Proofs.Lays.n189 Try.prog sortLays_ren := {
  mixed := by kernel_rfl
  f125 := Try.func48.trans (congrArg some (by kernel_rfl))
  f128 := Try.func60.trans (congrArg some (by kernel_rfl))
  f129 := Try.func61.trans (congrArg some (by kernel_rfl))
  f189 := Try.func42.trans (congrArg some (by kernel_rfl))
  f215 := Try.func67.trans (congrArg some (by kernel_rfl))
  f216 := Try.func57.trans (congrArg some (by kernel_rfl))
  f257 := Try.func47.trans (congrArg some (by kernel_rfl))
  f294 := Try.func51.trans (congrArg some (by kernel_rfl))
  f295 := Try.func52.trans (congrArg some (by kernel_rfl))
  f296 := Try.func53.trans (congrArg some (by kernel_rfl))
  f297 := Try.func54.trans (congrArg some (by kernel_rfl))
  f298 := Try.func55.trans (congrArg some (by kernel_rfl))
  f299 := Try.func56.trans (congrArg some (by kernel_rfl))
  f300 := Try.func58.trans (congrArg some (by kernel_rfl))
  f301 := Try.func59.trans (congrArg some (by kernel_rfl))
  f328 := Try.func62.trans (congrArg some (by kernel_rfl))
  f329 := Try.func63.trans (congrArg some (by kernel_rfl))
  f330 := Try.func64.trans (congrArg some (by kernel_rfl))
  f331 := Try.func65.trans (congrArg some (by kernel_rfl))
  f332 := Try.func66.trans (congrArg some (by kernel_rfl))
  f343 := Try.func68.trans (congrArg some (by kernel_rfl))
  t0 := Try.underlying0
  a0 := Try.isAgg0
  z0 := Try.sizeOf0
  v0 := Try.zeroValue0
  t3 := Try.underlying3
  a3 := Try.isAgg3
  z3 := Try.sizeOf3
  v3 := Try.zeroValue3
  t4 := Try.underlying4
  a4 := Try.isAgg4
  z4 := Try.sizeOf4
  v4 := Try.zeroValue4
  t5 := Try.underlying5
  a5 := Try.isAgg5
  z5 := Try.sizeOf5
  v5 := Try.zeroValue5
  t9 := Try.underlying9
  a9 := Try.isAgg9
  z9 := Try.sizeOf9
  v9 := Try.zeroValue9
  t28 := Try.underlying23
  a28 := Try.isAgg23
  z28 := Try.sizeOf23
  v28 := Try.zeroValue23
  t46 := Try.underlying73
  a46 := Try.isAgg73
  z46 := Try.sizeOf73
  v46 := Try.zeroValue73
  t51 := Try.underlying83
  a51 := Try.isAgg83
  z51 := Try.sizeOf83
  v51 := Try.zeroValue83
  t53 := Try.underlying85
  a53 := Try.isAgg85
  z53 := Try.sizeOf85
  v53 := Try.zeroValue85
  t131 := Try.underlying30
  a131 := Try.isAgg30
  z131 := Try.sizeOf30
  v131 := Try.zeroValue30
  t182 := Try.underlying76
  a182 := Try.isAgg76
  z182 := Try.sizeOf76
  v182 := Try.zeroValue76
  t183 := Try.underlying77
  a183 := Try.isAgg77
  z183 := Try.sizeOf77
  v183 := Try.zeroValue77
  t218 := Try.underlying86
  a218 := Try.isAgg86
  z218 := Try.sizeOf86
  v218 := Try.zeroValue86
  t222 := Try.underlying90
  a222 := Try.isAgg90
  z222 := Try.sizeOf90
  v222 := Try.zeroValue90
  t228 := Try.underlying93
  a228 := Try.isAgg93
  z228 := Try.sizeOf93
  v228 := Try.zeroValue93
  t229 := Try.underlying94
  a229 := Try.isAgg94
  z229 := Try.sizeOf94
  v229 := Try.zeroValue94 }

def compactLays_ren : Go.Shelf.Ren := ⟨fun | 20 => 43 | n => n, fun | 22 => 23 | 3 => 3 | 4 => 4 | 0 => 0 | n => n, fun | n => n⟩
theorem compactLays : Go.Proofs.Lays2.n20 Try.prog compactLays_ren := {
  mixed := by kernel_rfl
  f20 := Try.func43.trans (congrArg some (by kernel_rfl))
  t0 := Try.underlying0
  a0 := Try.isAgg0
  z0 := Try.sizeOf0
  v0 := Try.zeroValue0
  t3 := Try.underlying3
  a3 := Try.isAgg3
  z3 := Try.sizeOf3
  v3 := Try.zeroValue3
  t4 := Try.underlying4
  a4 := Try.isAgg4
  z4 := Try.sizeOf4
  v4 := Try.zeroValue4
  t22 := Try.underlying23
  a22 := Try.isAgg23
  z22 := Try.sizeOf23
  v22 := Try.zeroValue23
  i3 := by kernel_rfl }

theorem grown_below (w : World) (os : Array Obj) : Below w.heap.size w (Sort.grow w os) :=
  ⟨rfl, rfl, rfl, by simp, fun k hk => Sort.heap_grow_old w os hk⟩

theorem grownBy_put (w : World) (g q : Nat) (d : Array Int) : w.grownBy (Sort.putRow (Value.int .i64) (Sort.ahead w q) g 0 d) (some g) := by
  refine ⟨rfl, rfl, rfl, by simp [Sort.putRow, Sort.mapBlock, Sort.ahead], fun k hk hne => ?_⟩
  have : g ≠ k := fun e => hne (by rw [e])
  simp [Sort.putRow, Sort.mapBlock, Sort.ahead, Array.getElem?_modify, this]

theorem sort_row (g n cap B : Nat) (zs : List Int) (w : World) (h : OwnN w B (some ⟨g, 0, none⟩) n cap zs) (hn : n ≤ 1048576) :
    Calls Try.prog 42 #[.slice (some ⟨g, 0, none⟩) n cap] w fun e w' => e = .returned (.tuple #[]) ∧ OwnN w' B (some ⟨g, 0, none⟩) n cap (zs.mergeSort fun x y => decide (x ≤ y)) ∧ w.grownBy w' (some g) := by
  obtain ⟨g', cap', e, hbg, hgl, hnc, hcm, hl, hH⟩ := Lib.holds_of_ownsRow (enc := Value.int .i64) h (by simp)
  injection e with e1 e2 e3
  injection e1 with e1
  injection e1 with e1
  subst e1; subst e3
  have hc := Any.slices_Sort_int sortLays g 0 cap zs w hH hgl (by omega)
  rw [hl] at hc
  refine hc.mono ?_
  rintro e w' ⟨rfl, q, os, rfl⟩
  refine ⟨rfl, ?_, ?_⟩
  · have h1 := Lib.ownsRow_putRow (enc := Value.int .i64) (q := q) (k := n) (ys := zs.mergeSort fun x y => decide (x ≤ y)) h (by rw [List.length_mergeSort, hl]) (Nat.le_refl _)
    have h2 := ownsRow_below h1 (grown_below _ os)
    rw [List.take_of_length_le (by rw [List.length_mergeSort, hl]; exact Nat.le_refl _)] at h2
    exact h2
  · exact only_trans (grownBy_put w g q _) (only_of_below (grown_below _ os) _)

theorem compact_row (g n cap B : Nat) (zs : List Int) (w : World) (h : OwnN w B (some ⟨g, 0, none⟩) n cap zs) (hn : n ≤ 1048576) :
    Calls Try.prog 43 #[.slice (some ⟨g, 0, none⟩) n cap] w fun e w' => e = .returned (.slice (some ⟨g, 0, none⟩) (Lib.compact zs).length cap) ∧ OwnN w' B (some ⟨g, 0, none⟩) (Lib.compact zs).length cap (Lib.compact zs) ∧ w.grownBy w' (some g) := by
  obtain ⟨g', cap', e, hbg, hgl, hnc, hcm, hl, hH⟩ := Lib.holds_of_ownsRow (enc := Value.int .i64) h (by simp)
  injection e with e1 e2 e3
  injection e1 with e1
  injection e1 with e1
  subst e1; subst e3
  have hc := Any.slices_Compact_int compactLays g 0 cap zs w hH (by omega) (by omega)
  rw [hl] at hc
  refine hc.mono ?_
  have hle := Lib.compact_length_le zs
  rintro e w' ⟨rfl, q, rfl⟩
  refine ⟨rfl, ?_, grownBy_put w g q _⟩
  have h1 := Lib.ownsRow_putRow (enc := Value.int .i64) (q := q) (k := (Lib.compact zs).length) (ys := Lib.compact zs ++ List.replicate (n - (Lib.compact zs).length) 0) h (by simp; omega) (by omega)
  rw [List.take_left] at h1
  exact h1

theorem sort_nil (cap : Nat) (w : World) : Calls Try.prog 42 #[.slice none 0 cap] w fun e w' => e = .returned (.tuple #[]) ∧ w' = w :=
  Any.slices_Sort_int_none sortLays none cap w

theorem compact_nil (cap : Nat) (w : World) : Calls Try.prog 43 #[.slice none 0 cap] w fun e w' => e = .returned (.slice none 0 cap) ∧ w' = w :=
  Any.slices_Compact_int_empty compactLays none cap w

end Go.Proofs.Ytckbhhaigpajpaa

/- It is proved what the method mapped returns, by which closure it may be called; conditions: those of the statement. -/
namespace Go.Proofs.Ytckbhhaigpajpaa
open Go.RowKit Go.Shelf

attribute [local go_sem] Oper.semAt_some

set_option maxRecDepth 100000 in
set_option maxHeartbeats 4000000 in
theorem mapped81 (m : Int) (a : Option Addr) (c : Nat) (zs : List Int) (f : Int → Int) (w : World) (ha : Ints w w.heap.size a zs) (hx : zs.length ≤ 1048576)
    (hK : ∀ z W, Below w.heap.size w W → Calls Try.prog 41 #[.int .i64 z] W fun e W' => e = .returned (.int .i64 (f z)) ∧ Below W.heap.size W W') :
    Calls Try.prog 40 #[.agg #[.int .i64 m, .slice a zs.length c], .func (.func 41) #[] #[]] w (RetFam w m (zs.map f)) := by
  obtain ⟨i0, hi0, hz0, hz1, hz2⟩ := info_parts Try.info3
  have HI := Lib.hid ha
  have HK := Lib.hid hK
  clear ha hK
  have bR3 := Lib.hid (below3 w (.cells #[.int .i64 m, .slice a zs.length c] 25) (.cells #[.func (.func 41) #[] #[]] 66) (.cells #[.int .i64 0, .slice none 0 0] 25))
  refine (callsIn_wide (n := 6)).1 ?_
  refine callsIn_of_wp_marks Try.func40 rfl trivial ?_ rfl
  simp only [Try.ntmps40, List.size_toArray, List.length_cons, List.length_nil, Nat.reduceAdd, Nat.reduceSub, Array.replicate_succ, Array.replicate_zero, List.push_toArray, List.append_toArray, List.nil_append, List.cons_append]
  gi_wp2_with (gi_at_make; refine mark_make ?_)
  refine unmark_make ?_
  refine wpListIn_make_own _ rfl _ _ 23 rfl (w.heap.size + 1 + 1 + 1) 3 i0 (.int .i64 0) 1 Try.underlying23 hi0 hz0 hz1 .i64 .i64 _ zs.length rfl rfl rfl (by rw [hz2]; omega) (by simp only [maxLen]; omega) (by simp) ?_
  intro w1 hown hg
  have q0 := made_0 hg
  have q1 := made_1 hg
  have q2 := made_2 hg
  have y0 := blk_cell (w := w1.alloc (.cells #[.slice (some ⟨w.heap.size + 1 + 1 + 1, 0, none⟩) 0 zs.length] 23)) ((alloc_old _ _ _ (lt_of_some q0)).trans q0) 0
  have y1 := blk_cell (w := w1.alloc (.cells #[.slice (some ⟨w.heap.size + 1 + 1 + 1, 0, none⟩) 0 zs.length] 23)) ((alloc_old _ _ _ (lt_of_some q0)).trans q0) 1
  have hsz : w.heap.size + 1 + 1 + 1 ≤ w1.heap.size := by have := hg.size; simp at this; omega
  have HQ0 := Lib.hid q0
  have HQ1 := Lib.hid q1
  have HQ2 := Lib.hid q2
  have hGl : w.heap.size + 1 + 1 + 1 < w1.heap.size := by have := (World.ownsRow.lt hown _ rfl).2; simpa using this
  have HO := Lib.hid hown
  have HG := Lib.hid (bR3.out.trans (below_made hg))
  clear q0 q1 q2 hown hg
  simp only [cell2_0, cell2_1] at y0 y1
  gi_wp2_with (refine ⟨trivial, ?_⟩; gi_at_call 28; refine (callsIn_wide.2 (clubs_any _ _ _ _ _)).mono ?_; rintro e w' ⟨rfl, rfl⟩)
  have hle : w.heap.size ≤ w1.heap.size := by omega
  have h16 : 1 ≤ 6 := by omega
  have hmx : Try.prog.follows .mixedOrders = true := by kernel_rfl
  have bA := Boxed.new w1 23 (.slice (some ⟨w.heap.size + 1 + 1 + 1, 0, none⟩) 0 zs.length)
  have HBB : Hid (Below w.heap.size w ((w1.alloc (.cells #[.slice (some ⟨w.heap.size + 1 + 1 + 1, 0, none⟩) 0 zs.length] 23)).alloc (.cells #[.int .i64 m, .slice a zs.length c] 25))) := Lib.hid (HG.out.trans ((below2 w1 _ _).mono (by omega)))
  have hst := clubs_stops (6 - 1) (by omega) (w1.heap.size + 1) w.heap.size a c zs hx ((w1.alloc (.cells #[.slice (some ⟨w.heap.size + 1 + 1 + 1, 0, none⟩) 0 zs.length] 23)).alloc (.cells #[.int .i64 m, .slice a zs.length c] 25)) (by simp) (by simp; omega)
    (by have := blk_cell (alloc_new (w1.alloc (.cells #[.slice (some ⟨w.heap.size + 1 + 1 + 1, 0, none⟩) 0 zs.length] 23)) (.cells #[.int .i64 m, .slice a zs.length c] 25)) 1; simp) (HI.out.below HBB.out)
  refine wpIn_rangeFunc_ownG rfl h16 (gf := 44) (lb := #[.pointer (some ⟨w1.heap.size + 1, 0, none⟩)]) rfl trivial (enters_of Try.func44 (by kernel_rfl) rfl)
    hst belowK_t (belowK_b (by simp; omega)) (Below.refl _ _) (fun _ => rfl)
    (fun pre W => ((∃ v, Boxed W w1.heap.size 23 v ∧ W.ownsRow w.heap.size 3 1 v pre.length ((pre.map fun p => f p.2).map (Value.int .i64)) ∧ v = .slice (some ⟨w.heap.size + 1 + 1 + 1, 0, none⟩) pre.length zs.length) ∧ (HasBlk W w.heap.size #[.int .i64 m, .slice a zs.length c] 25 ∧ HasBlk W (w.heap.size + 1) #[.func (.func 41) #[] #[]] 66 ∧ HasBlk W (w.heap.size + 1 + 1) #[.int .i64 0, .slice none 0 0] 25)) ∧ Below w.heap.size w W)
    (fun _ _ _ => False)
    (OwnFrom.and (OwnFrom.and (Own.from (holdsRow_own w.heap.size w1.heap.size 23 3 1 (fun (pre : List (Nat × Int)) => pre.length) (fun (pre : List (Nat × Int)) => (pre.map fun p => f p.2).map (Value.int .i64)) (fun (pre : List (Nat × Int)) v => v = .slice (some ⟨w.heap.size + 1 + 1 + 1, 0, none⟩) pre.length zs.length)) _) (OwnFrom.and (Own.from (hasBlk_own _ _ _) _) (OwnFrom.and (Own.from (hasBlk_own _ _ _) _) (Own.from (hasBlk_own _ _ _) _)))) (ownFrom_below (Nat.le_refl _) (by simp; omega)))
    (fun _ _ _ _ _ hs _ _ => hs)
    ⟨⟨⟨_, bA.alloc _, by have := ownsRow_base HO.out (B := w.heap.size) (by omega); simpa using (this.alloc _).alloc _, rfl⟩, (HasBlk.alloc HQ0.out _).alloc _, (HasBlk.alloc HQ1.out _).alloc _, (HasBlk.alloc HQ2.out _).alloc _⟩, HBB.out⟩
    (fun x => { tmps := #[.agg #[.int .i64 m, .slice a zs.length c], .func (.func 41) #[] #[], .pointer (some ⟨w.heap.size, 0, none⟩), .pointer (some ⟨w.heap.size + 1, 0, none⟩), .pointer (some ⟨w.heap.size + 1 + 1, 0, none⟩), .pointer (some ⟨w1.heap.size, 0, none⟩), undef, .int .i64 x.2, .pointer (some ⟨w.heap.size, 1, none⟩), .slice a zs.length c, .int .i64 zs.length, .slice (some ⟨w.heap.size + 1 + 1 + 1, 0, none⟩) 0 zs.length, .agg #[.int .i64 m, .slice a zs.length c], .func (.func 44) #[] #[.pointer (some ⟨w1.heap.size + 1, 0, none⟩)], .int .i64 (x.1 : Int), .int .i64 x.2, undef, undef, undef, undef, undef, undef, undef, undef, undef, undef], defers := [] }) ?assign ?body ?done ?stop
  case assign =>
    intro l x W K hK
    gi_wp2
    exact hK
  case body =>
    rintro l pre x W ⟨⟨⟨v, hv, hrow, rfl⟩, q0, q1, q2⟩, hB⟩ hlt
    have hc := hv.cell
    have hd := blk_cell q1 0
    simp only [cell1_0] at hd
    have hBd := Lib.hid hB.drew
    have HV := Lib.hid hv
    have HR := Lib.hid hrow
    have hWs : w.heap.size ≤ W.heap.size := hB.size
    have HB := Lib.hid hB
    have HQ0' := Lib.hid q0
    have HQ1' := Lib.hid q1
    have HQ2' := Lib.hid q2
    clear hv hrow hB q0 q1 q2
    have hGlt : w.heap.size + 1 + 1 + 1 < w1.heap.size := hGl
    have hMB : w1.heap.size < W.drew.heap.size := HV.out.lt
    gi_wp2
    gi_region_with_o (refine ⟨trivial, ?_⟩; gi_at_call 41; refine (CallsIn.inRound l (callsIn_wide.2 (HK.out _ _ hBd.out))).mono ?_; rintro e w2 ⟨rfl, hb2⟩; obtain ⟨u, hcu, hfu⟩ := spare_cell (own_after HR.out hb2) pre.length hlt; have hlt2 := lt_of_cell hcu; have hcu' := (World.cell?_alloc_lt w2 (.cells #[.int .i64 (f x.2)] 3) _ hlt2).trans hcu; have hc2 := (hb2.cell (p := ⟨w1.heap.size, 0, none⟩) hMB).trans hc; have hf2 := (hb2.frozen (p := ⟨w1.heap.size, 0, none⟩) hMB).trans HV.out.frozen; have hMB2 := lt_of_cell hc2; have hc3 := after_spare (y := .int .i64 (f x.2)) (k := pre.length) (o := .cells #[.int .i64 (f x.2)] 3) hGlt hMB2 hc2; have hf3 := after_spare_f (y := .int .i64 (f x.2)) (k := pre.length) (o := .cells #[.int .i64 (f x.2)] 3) hGlt hMB2 hf2)
    all_goals exact mapped_end (x := x) (f := f) hWs hGlt (by omega) hlt hb2 HV.out HR.out HB.out HQ0'.out (by omega) HQ1'.out (by omega) HQ2'.out (by omega)
  case done =>
    rintro D ys W hD rfl ⟨⟨⟨v, hv, hrow, rfl⟩, q0, q1, q2⟩, hB⟩ hK
    rw [pairs_length] at hv hrow
    have hmap : (pairs zs zs.length).map (fun p => f p.2) = zs.map f := by
      rw [show (fun p : Nat × Int => f p.2) = f ∘ (fun p => p.2) from rfl, ← List.map_map, pairs_all]
    rw [hmap] at hrow
    have hc := hv.cell
    have d0 := blk_cell q0 0
    have d2 := blk_cell q2 0
    have d3 := blk_cell q2 1
    have f2 := blk_frozen q2 0
    have f3 := blk_frozen q2 1
    simp only [cell2_0, cell2_1] at d0 d2 d3
    have HR := Lib.hid hrow
    have HB := Lib.hid hB
    have HQ2' := Lib.hid q2
    clear hv hrow hB q0 q1 q2 hmap
    gi_wp2
    have hK' := (KeepsOthers.setCell (W.setCell ⟨w.heap.size + 1 + 1, 0, none⟩ (.int .i64 m)) ⟨w.heap.size + 1 + 1, 1, none⟩ (.slice (some ⟨w.heap.size + 1 + 1 + 1, 0, none⟩) zs.length zs.length)).same D _ ((KeepsOthers.setCell W ⟨w.heap.size + 1 + 1, 0, none⟩ (.int .i64 m)).same D _ hK rfl) rfl
    refine ⟨by simp, .inl ⟨_, _, rfl, run_takeDeferred hK', ?_⟩⟩
    have e0 := cell_kept (World.cell?_setCell_other (W.setCell ⟨w.heap.size + 1 + 1, 0, none⟩ (.int .i64 m)) ⟨w.heap.size + 1 + 1, 1, none⟩ ⟨w.heap.size + 1 + 1, 0, none⟩ (.slice (some ⟨w.heap.size + 1 + 1 + 1, 0, none⟩) zs.length zs.length) (by simp) |>.trans (World.cell?_setCell_same' W ⟨w.heap.size + 1 + 1, 0, none⟩ (.int .i64 m) (by rw [d2]; rfl))) (grownBy_putObj' _ D (.deferred none)) (fun r e => by cases e; exact ⟨_, hK', rfl⟩)
    have e1 := cell_kept (World.cell?_setCell_same' (W.setCell ⟨w.heap.size + 1 + 1, 0, none⟩ (.int .i64 m)) ⟨w.heap.size + 1 + 1, 1, none⟩ (.slice (some ⟨w.heap.size + 1 + 1 + 1, 0, none⟩) zs.length zs.length) (by rw [World.cell?_setCell_other _ _ _ _ (by simp), d3]; rfl)) (grownBy_putObj' _ D (.deferred none)) (fun r e => by cases e; exact ⟨_, hK', rfl⟩)
    refine ⟨.agg #[.int .i64 m, .slice (some ⟨w.heap.size + 1 + 1 + 1, 0, none⟩) zs.length zs.length], by simp [results, Try.f40, go_sem, e0, e1], _, _, by rw [List.length_map], ?_, ?_⟩
    · rw [List.length_map]
      have h1 := ownsRow_setCell_ne HR.out (p := ⟨w.heap.size + 1 + 1, 0, none⟩) (by simp [Value.ownBlock]) (.int .i64 m)
      have h2 := ownsRow_setCell_ne h1 (p := ⟨w.heap.size + 1 + 1, 1, none⟩) (by simp [Value.ownBlock]) (.slice (some ⟨w.heap.size + 1 + 1 + 1, 0, none⟩) zs.length zs.length)
      unfold OwnI
      rw [List.length_map]
      exact ownsRow_putObj h2 _ hK' rfl
    · exact ((HB.out.setCell (p := ⟨w.heap.size + 1 + 1, 0, none⟩) (by simp; omega) _).setCell (p := ⟨w.heap.size + 1 + 1, 1, none⟩) (by simp; omega) _).trans (belowK_b (w := w) (Nat.le_refl _) _ D _ _ (by simp at hD; omega) hK' rfl rfl)
  case stop =>
    rintro D c pre W _ _ h _
    exact h.elim

end Go.Proofs.Ytckbhhaigpajpaa
