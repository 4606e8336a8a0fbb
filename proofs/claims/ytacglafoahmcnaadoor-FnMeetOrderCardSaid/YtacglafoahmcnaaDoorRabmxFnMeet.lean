/- It is proved what allNames yields, if a round may end the loop; conditions: those of each statement. -/
import Derived.RowKit
import Derived.Laws.CopyRow
import Derived.Lib.SlBuf
import Derived.RangeFuncNested
import Derived.RangeFuncBound
import Derived.RangeFuncCalls
import Derived.RangeFuncLeaves
import Derived.RangeFuncBox
import Derived.RangeFuncWrites
import Derived.StillTailTactics
import Derived.Test.YtacglafoahmcnaaDoorRows
import Derived.WalkKit
import Derived.WalkSpells
import Derived.ProofKit
import Derived.OpenShut
import Derived.ShutString
import Derived.ChangeOld
import Derived.Below
import Derived.Deep.RegionHeld3
import Derived.Deep.QuietTactic
import Derived.BigQuiet
import Derived.Lib.Hide
import Derived.Lib.SmallJoins
import Derived.Outline
import Derived.Laws.MakeOwn
import Derived.Laws.OwnMore
import Derived.IntWalk
import Derived.Shelf.Abstract
import Derived.Shelf.RegionOpen
import Derived.OwnWalkIn
import Derived.TacticsInMore
import Derived.LoopNIn
import Derived.LoopIn
import Derived.Maps.AppendAt
import Derived.Deep.AppendLies
import Derived.OwnWalk
import Derived.StillTail
import Derived.StillTactics
import Derived.OrdersIn
import Derived.TacticsIn
import Derived.Shelf.Spec.TrailingZeros
import Derived.Test.YtacglafoahmcnaaDoorRaazxFnMeet
import Derived.Test.YtacglafoahmcnaaDoorRabgxFnMeet
import Derived.Test.YtacglafoahmcnaaDoorRabkxFnMeet
import Derived.Test.YtacglafoahmcnaaDoorRaaa
import Derived.Test.YtacglafoahmcnaaDoorRaab
import Derived.Test.YtacglafoahmcnaaDoorRaae
import Derived.Test.YtacglafoahmcnaaDoorRablxFnMeet
import Derived.Maps.OwnIn
import Derived.Maps.Ext
import Derived.DeepKeys4
import Derived.MapKept
import Derived.Sort.MapsRangeIn
import Derived.Deep.RegionLaw
import Derived.Lib.AppendZeros
import Derived.Lib.SlicesCompact
import Derived.Lib.OwnBridge
import Derived.Shelf.Sort.Plain
import Derived.Shelf.Slices.In.SortNone
import Derived.Shelf.Slices.CompactI
import Derived.Ground.Names2Prog
import Derived.Lib.SliceRun
import Derived.Laws.BitsAllLaws
import Derived.Test.YtacglafoahmcnaaDoorRaal
import Derived.Test.YtacglafoahmcnaaDoorRabfxFnMeet
import Derived.Test.YtacglafoahmcnaaDoorRaac
import Derived.Test.YtacglafoahmcnaaDoorRaag
import Derived.Test.YtacglafoahmcnaaDoorRaam
import Derived.Test.YtacglafoahmcnaaDoorRabcxFnMeet
import Derived.Test.YtacglafoahmcnaaDoorRabdxFnMeet
import Derived.Test.YtacglafoahmcnaaDoorRaai
import Derived.Test.YtacglafoahmcnaaDoorRaad
import Derived.Test.YtacglafoahmcnaaDoorRabexFnMeet
import Derived.Test.YtacglafoahmcnaaDoorRaat
import Derived.Test.YtacglafoahmcnaaDoorRabbxFnMeet
import Derived.Test.YtacglafoahmcnaaDoorTd
namespace Go.Proofs.YtacglafoahmcnaaDoor
open Go.RowKit Go.Shelf

theorem two_ends {A B C D E : Prop} {e : Ending} (h : (e = .returned (.bool true) ∧ A ∧ B ∧ C) ∨ (e = .returned (.bool false) ∧ D ∧ E)) : ∃ t, e = .returned (.bool t) ∧ (A ∨ D) := by
  rcases h with h | h
  · exact ⟨true, h.1, .inl h.2.1⟩
  · exact ⟨false, h.1, .inr h.2.1⟩

set_option maxRecDepth 100000 in
set_option maxHeartbeats 4000000 in
theorem allNames1_stop (m n : Nat) (X : Nat → Prop) (hm0 : 1 ≤ m) (hm : m ≤ 6) (hb1 : ∀ k, X k → 1 < k) (Bm : Nat) (w : World) (hBm : Bm < w.heap.size) (hc : w.cell? ⟨Bm, 0, none⟩ = some (.int .i64 (m : Int))) (hT : Tab w) :
    SeqButB n Tryd.prog 115 #[.pointer (some ⟨Bm, 0, none⟩)] (fun x : Value × List Nat => #[x.1]) X (OkN m) (fun xs => xs.map (·.2) = permsL m (List.range m)) (fun pre => pre.map (·.2) <+: permsL m (List.range m) ∧ pre ≠ []) (6 ^ m) w := by
  intro l J Jx W hW hl1 hl2 hX hJ hJx hY h0
  refine callsIn_wide.2 ?_
  have hT1 := hT.lt
  have hTW : Tab W := hT.below hW (by omega)
  have hcW := (hW.cell (p := ⟨Bm, 0, none⟩) hBm).trans hc
  have hBW : Bm < W.heap.size := Nat.lt_of_lt_of_le hBm hW.size
  have hmk := run_make0 m hm
  have hlen : (mem (2 ^ m - 1)).length = m := by rw [mem_fullR m hm, List.length_range]
  have h63 : 2 ^ m - 1 < 64 := by have := Nat.pow_le_pow_right (n := 2) (by decide) hm; omega
  obtain ⟨W4, hW4, q0, q1, q2, q3, hs4, hb4⟩ : ∃ W4, (((W.alloc (.cells #[.func (.yield l) #[] #[]] 85)).alloc (.cells (iv (List.replicate m 0)) 3)).alloc (.cells #[.slice (some ⟨W.heap.size + 1, 0, none⟩) 0 m] 23)).alloc (.cells #[.func (.func 116) #[] #[.pointer (some ⟨W.heap.size, 0, none⟩), .pointer (some ⟨W.heap.size + 1 + 1, 0, none⟩), .pointer (some ⟨W.heap.size + 1 + 1 + 1, 0, none⟩)]] 106) = W4 ∧
      HasBlk W4 W.heap.size #[.func (.yield l) #[] #[]] 85 ∧ Nums W4 (W.heap.size + 1) 3 (List.replicate m 0) ∧ HasBlk W4 (W.heap.size + 1 + 1) #[.slice (some ⟨W.heap.size + 1, 0, none⟩) 0 m] 23 ∧
      HasBlk W4 (W.heap.size + 1 + 1 + 1) #[.func (.func 116) #[] #[.pointer (some ⟨W.heap.size, 0, none⟩), .pointer (some ⟨W.heap.size + 1 + 1, 0, none⟩), .pointer (some ⟨W.heap.size + 1 + 1 + 1, 0, none⟩)]] 106 ∧ W4.heap.size = W.heap.size + 1 + 1 + 1 + 1 ∧ Below W.heap.size W W4 := by
    refine ⟨_, rfl, ?_, ?_, ?_, ?_, by simp, (below3 W _ _ _).alloc (by simp; omega) _⟩
    · exact (alloc_old _ _ _ (by simp <;> omega)).trans (alloc3_0 W _ _ _)
    · exact (alloc_old _ _ _ (by simp <;> omega)).trans (alloc3_1 W _ _ _)
    · exact (alloc_old _ _ _ (by simp <;> omega)).trans (alloc3_2 W _ _ _)
    · unfold HasBlk
      rw [show W.heap.size + 1 + 1 + 1 = (((W.alloc (.cells #[.func (.yield l) #[] #[]] 85)).alloc (.cells (iv (List.replicate m 0)) 3)).alloc (.cells #[.slice (some ⟨W.heap.size + 1, 0, none⟩) 0 m] 23)).heap.size from by simp]
      exact alloc_new _ _
  have hJ4 : J [] W4 := by
    rw [← hW4]
    exact hJ _ _ _ none (hJ _ _ _ none (hJ _ _ _ none (hJ _ _ _ none h0 (World.grownBy_alloc _ _ _) (by simp)) (World.grownBy_alloc _ _ _) (by simp)) (World.grownBy_alloc _ _ _) (by simp)) (World.grownBy_alloc _ _ _) (by simp)
  have hO4 : OS W.heap.size (W.heap.size + 1 + 1) (W.heap.size + 1 + 1 + 1) (W.heap.size + 1) l m W4 [] := ⟨q0, q3, q2, ⟨List.replicate m 0, by simp, by simp [nI], q1⟩, hTW.below hb4 hTW.lt⟩
  have LL : LiesX W.heap.size (W.heap.size + 1 + 1) (W.heap.size + 1 + 1 + 1) (W.heap.size + 1) l X W.heap.size :=
    ⟨by omega, hl2, fun k hk => ⟨hb1 k hk, by have := hX k hk; have := hW.size; omega⟩, by omega, by omega, by omega, by omega, by omega, by omega, by omega, by omega, by omega⟩
  have IH := nameGo W.heap.size (W.heap.size + 1 + 1) (W.heap.size + 1 + 1 + 1) (W.heap.size + 1) l m W.heap.size (6 ^ m) X hm LL J Jx hJ hJx (fun k pre x W1 h1 h2 h3 => yield_any k (hY pre x W1 h1 h2 h3)) m (2 ^ m - 1) h63 hlen (fun v hv => by rw [mem_fullR m hm] at hv; simpa using hv) [] []
  have cg := q3
  have cgc := (blk_cell q3 0).trans (cell1_0 _)
  have cm : W4.cell? ⟨Bm, 0, none⟩ = some (.int .i64 (m : Int)) := (hb4.cell (p := ⟨Bm, 0, none⟩) hBW).trans hcW
  rw [mem_fullR m hm] at IH
  have HIH := Lib.hid IH
  have HJ4 := Lib.hid hJ4
  have HO4 := Lib.hid hO4
  have HJ5 : Hid (J [] (W4.drew.alloc (.cells #[.int .i64 (m : Int), .slice none 0 0] 25))) := Lib.hid (hJ _ _ _ none (show J [] W4.drew from hJ _ _ _ none hJ4 (show W4.grownBy W4.drew none from ⟨rfl, rfl, rfl, Nat.le_refl _, fun _ _ _ => rfl⟩) (by simp)) (World.grownBy_alloc _ _ _) (by simp))
  have HO5 := Lib.hid (hO4.drew.alloc (.cells #[.int .i64 (m : Int), .slice none 0 0] 25))
  have HF := Lib.hid (full_nat m)
  have hm1I : 1 ≤ (m : Int) := by omega
  have hm6I : (m : Int) ≤ 6 := by omega
  have HS4 := Lib.hid hs4
  have hB4 : Bm < W4.heap.size := by omega
  clear IH hJ4 hO4 hY h0 hJ hJx hX q0 q1 q2 q3 hb4 LL hlen hs4 cg hTW hW
  go_enter Tryd.func115, Tryd.ntmps115
  have hst := store_new (((W.alloc (.cells #[.func (.yield l) #[] #[]] 85)).alloc (.cells (iv (List.replicate m 0)) 3)).alloc (.cells #[.slice (some ⟨W.heap.size + 1, 0, none⟩) 0 m] 23)) (W.heap.size + 1 + 1 + 1) (by simp) .nilFunc (.func (.func 116) #[] #[.pointer (some ⟨W.heap.size, 0, none⟩), .pointer (some ⟨W.heap.size + 1 + 1, 0, none⟩), .pointer (some ⟨W.heap.size + 1 + 1 + 1, 0, none⟩)]) 106 rfl
  rw [hW4] at hst
  go_wp2
  have hg4 : W.heap.size + 1 + 1 + 1 < W4.heap.size := by have := HS4.out; omega
  clear hst hW4 hmk
  go_region_with (first
    | (go_at_call 57; refine (full_any _ _ _ _ _ hm1I hm6I).mono ?_; rintro e w' ⟨rfl, rfl⟩; rw [HF.out])
    | (go_at_call 116; refine (HIH.out _ (by simp) (by simp) (by simp) (show W.heap.size ≤ (W4.drew.alloc (.cells #[.int .i64 (m : Int), .slice none 0 0] 25)).heap.size by simp; omega) HJ5.out HO5.out).mono ?_; intro e w' hres0; obtain ⟨tv, rfl, hres⟩ := two_ends hres0; clear hres0))
  all_goals
    go_wp2
    go_end0
    refine ⟨⟨_, rfl⟩, ?_⟩
    rcases hres with ⟨xs, hxs, hj⟩ | ⟨xs, hxs, hne, hj⟩
    · exact .inl ⟨xs, by rw [hxs]; simp, by simpa using hj⟩
    · exact .inr ⟨xs, ⟨by simpa using hxs, hne⟩, by simpa using hj⟩

end Go.Proofs.YtacglafoahmcnaaDoor

/- It is proved what the program's MeetOrder returns; conditions: those of each statement. -/
namespace Go.Proofs.YtacglafoahmcnaaDoor
open Go.RowKit Go.Shelf

attribute [local go_sem] Oper.semAt_some

/-- The first even order. -/
def firstO (m : Nat) (zs : List Int) : Option (List Nat) := (permsL m (List.range m)).find? fun p => !brkC zs (nI p)

def ordZ (m : Int) (zs : List Int) : List Int := if famIn m zs then nI ((firstO m.toNat zs).getD []) else []
def ordB (m : Int) (zs : List Int) : Bool := famIn m zs && (firstO m.toNat zs).isSome
theorem firstO_none {m : Nat} {zs : List Int} {xs : List (Value × List Nat)} (hS : xs.map (·.2) = permsL m (List.range m)) (h : ∀ y ∈ xs, brkC zs (nI y.2) = true) : firstO m zs = none := by
  unfold firstO
  rw [← hS, List.find?_eq_none]
  intro p hp
  obtain ⟨y, hy, rfl⟩ := List.mem_map.1 hp
  rw [h y hy]; decide

theorem firstO_some {m : Nat} {zs : List Int} {pre0 : List (Value × List Nat)} {x : Value × List Nat} (hS : (pre0 ++ [x]).map (·.2) <+: permsL m (List.range m)) (h : ∀ y ∈ pre0, brkC zs (nI y.2) = true) (hx : brkC zs (nI x.2) = false) : firstO m zs = some x.2 := by
  obtain ⟨r, hr⟩ := hS
  unfold firstO
  rw [← hr, List.map_append, List.append_assoc, List.find?_append, List.find?_eq_none.2 (fun p hp => by
    obtain ⟨y, hy, rfl⟩ := List.mem_map.1 hp
    rw [h y hy]; decide)]
  simp [hx]

theorem nI_in6 {m : Nat} (hm6 : m ≤ 6) {p : List Nat} (h : ∀ v ∈ p, v < m) : ∀ x ∈ nI p, 0 ≤ x ∧ x < 6 := by
  intro x hx
  unfold nI at hx
  obtain ⟨v, hv, rfl⟩ := List.mem_map.1 hx
  have := h v hv
  omega

set_option maxRecDepth 100000 in
set_option maxHeartbeats 4000000 in
theorem implMeetOrder_any (mI : Int) (a : Option Addr) (c : Nat) (zs : List Int) (w : World) (ha : Ints w w.heap.size a zs) (hT : Tab w) (hx : zs.length ≤ 1048576) :
    Calls Tryd.prog 35 #[.agg #[.int .i64 mI, .slice a zs.length c]] w (RetSB w (ordZ mI zs) (ordB mI zs)) := by
  have hT1 := hT.lt
  have h16 : 1 ≤ 6 := by omega
  obtain ⟨W3, hW3, q0, q1, q2, hs3, hb3⟩ : ∃ W3, ((w.alloc (.cells #[.int .i64 mI, .slice a zs.length c] 25)).alloc (.cells #[.slice none 0 0] 23)).alloc (.cells #[.bool false] 4) = W3 ∧ HasBlk W3 w.heap.size #[.int .i64 mI, .slice a zs.length c] 25 ∧ Boxed W3 (w.heap.size + 1) 23 (.slice none 0 0) ∧ Boxed W3 (w.heap.size + 1 + 1) 4 (.bool false) ∧ W3.heap.size = w.heap.size + 1 + 1 + 1 ∧ Below w.heap.size w W3 :=
    ⟨_, rfl, alloc3_0 w _ _ _, alloc3_1 w _ _ _, alloc3_2 w _ _ _, by simp, below3 w _ _ _⟩
  have y0 := (blk_cell q0 0).trans (cell2_0 _ _)
  have y1 := (blk_cell q0 1).trans (cell2_1 _ _)
  rw [← hW3] at y0 y1
  have HFI := Lib.hid (implFamilyIn_any mI a c zs W3 ((ha.below hb3).mono hb3.size) hx)
  have HW3 := Lib.hid hW3
  have HS3 := Lib.hid hs3
  have HB3 := Lib.hid hb3
  have HQ0 := Lib.hid q0
  have HQ1 := Lib.hid q1
  have HQ2 := Lib.hid q2
  have HA := Lib.hid ha
  have HT := Lib.hid hT
  clear ha hT q0 q1 q2 hs3 hb3 hW3
  cases hf : famIn mI zs
  · have HF := Lib.hid hf
    have HZ : Hid (ordZ mI zs = []) := Lib.hid (by unfold ordZ; rw [hf]; rfl)
    have HO : Hid (ordB mI zs = false) := Lib.hid (by unfold ordB; rw [hf]; rfl)
    clear hf
    rw [HZ.out, HO.out]
    refine (callsIn_wide (n := 6)).1 ?_
    refine callsIn_of_wp Tryd.func35 rfl trivial ?_ rfl
    simp only [Tryd.ntmps35, List.size_toArray, List.length_cons, List.length_nil, Nat.reduceAdd, Nat.reduceSub, Array.replicate_succ, Array.replicate_zero, List.push_toArray, List.append_toArray, List.nil_append, List.cons_append]
    gi_wp2_with fail
    refine ⟨trivial, ?_⟩
    rw [HW3.out]
    refine (callsIn_wide.2 HFI.out).mono ?_
    rintro e w1 ⟨rfl, hb1⟩
    rw [HF.out]
    have r1 : Boxed w1 (w.heap.size + 1) 23 (.slice none 0 0) := (hb1.block _ (by have := HS3.out; omega)).trans HQ1.out
    have r2 : Boxed w1 (w.heap.size + 1 + 1) 4 (.bool false) := (hb1.block _ (by have := HS3.out; omega)).trans HQ2.out
    have c1 := r1.cell
    have f1 := r1.frozen
    have r2' : Boxed (w1.setCell ⟨w.heap.size + 1, 0, none⟩ (.slice none 0 0)) (w.heap.size + 1 + 1) 4 (.bool false) := Boxed.other r2 (by omega) _
    have c2 := r2'.cell
    have f2 := r2'.frozen
    have e1 := (show Boxed ((w1.setCell ⟨w.heap.size + 1, 0, none⟩ (.slice none 0 0)).setCell ⟨w.heap.size + 1 + 1, 0, none⟩ (.bool false)) (w.heap.size + 1) 23 (.slice none 0 0) from Boxed.other (r1.set _) (by omega) _).cell
    have e2 := (show Boxed ((w1.setCell ⟨w.heap.size + 1, 0, none⟩ (.slice none 0 0)).setCell ⟨w.heap.size + 1 + 1, 0, none⟩ (.bool false)) (w.heap.size + 1 + 1) 4 (.bool false) from r2'.set _).cell
    have HBW : Hid (Below w.heap.size w ((w1.setCell ⟨w.heap.size + 1, 0, none⟩ (.slice none 0 0)).setCell ⟨w.heap.size + 1 + 1, 0, none⟩ (.bool false))) := Lib.hid ((HB3.out.trans (hb1.mono HB3.out.size)).trans (((But.setCell (X := (fun j => j = w.heap.size + 1 ∨ j = w.heap.size + 1 + 1)) w1 _ _ _ (fun _ => .inl rfl)).trans (But.setCell _ _ _ _ (fun _ => .inr rfl))).below (by have := HS3.out; have := hb1.size; omega) (fun j e => by omega)))
    clear r1 r2 r2' hb1
    gi_wp2
    refine bodyPost_ret (v := .tuple #[.slice none 0 0, .bool false]) (by simp [results, Tryd.results35, go_sem, e1, e2]) rfl ?_
    exact ⟨none, 0, rfl, World.ownsRow_nil _ _ _ _, HBW.out⟩
  · have HF := Lib.hid hf
    obtain ⟨m, rfl, hm1, hm6, hset, hl8⟩ := fam_nat2 hf
    have HZ : Hid (ordZ (m : Int) zs = nI ((firstO m zs).getD [])) := Lib.hid (by unfold ordZ; rw [hf]; rfl)
    have HO : Hid (ordB (m : Int) zs = (firstO m zs).isSome) := Lib.hid (by unfold ordB; rw [hf]; rfl)
    have HSET := Lib.hid hset
    clear hf hset
    rw [HZ.out, HO.out]
    refine (callsIn_wide (n := 6)).1 ?_
    refine callsIn_of_wp_marks Tryd.func35 rfl trivial ?_ rfl
    simp only [Tryd.ntmps35, List.size_toArray, List.length_cons, List.length_nil, Nat.reduceAdd, Nat.reduceSub, Array.replicate_succ, Array.replicate_zero, List.push_toArray, List.append_toArray, List.nil_append, List.cons_append]
    gi_wp2_with fail
    refine ⟨trivial, ?_⟩
    rw [HW3.out]
    refine (callsIn_wide.2 HFI.out).mono ?_
    rintro e w1 ⟨rfl, hb1⟩
    rw [HF.out]
    have q01 : HasBlk w1 w.heap.size #[.int .i64 (m : Int), .slice a zs.length c] 25 := (hb1.block _ (by have := HS3.out; omega)).trans HQ0.out
    have z0 := (blk_cell q01 0).trans (cell2_0 _ _)
    have HQ01 := Lib.hid q01
    have HB1 := Lib.hid hb1
    clear q01 hb1 y0 y1
    gi_wp2_with fail
    refine ⟨trivial, ?_⟩
    refine (callsIn_wide.2 (allNames_any _ _)).mono ?_
    rintro e w3 ⟨rfl, hw3⟩
    have hs1 : w.heap.size + 1 + 1 < w1.heap.size := by have := HB1.out.size; have := HS3.out; omega
    have hlo : Below w.heap.size w w3 := by rw [hw3]; exact ((HB3.out.trans (HB1.out.mono HB3.out.size)).alloc (by omega) _)
    have hs31 : w3.heap.size = w1.heap.size + 1 := by rw [hw3]; simp
    obtain ⟨bm, hbm⟩ : ∃ bm, bm = w1.heap.size := ⟨_, rfl⟩
    have bx : Boxed w3 bm 3 (.int .i64 (m : Int)) := by rw [hw3, hbm]; exact Boxed.new w1 3 _
    have hseq := allNames1_stop m (6 - 1) (fun j => j = w.heap.size + 1 ∨ j = w.heap.size + 1 + 1) hm1 hm6 (fun j e => by omega) bm w3 bx.lt bx.cell (HT.out.below hlo hT1)
    have hk3 : ∀ {k : Nat} {o : Obj}, k < w3.heap.size → k < w1.heap.size → w1.heap[k]? = some o → w3.heap[k]? = some o := fun {k o} _ h h' => by rw [hw3]; exact (alloc_old w1 _ _ h).trans h'
    have HSEQ := Lib.hid hseq
    have HLO := Lib.hid hlo
    have HQ3 : Hid (HasBlk w3 w.heap.size #[.int .i64 (m : Int), .slice a zs.length c] 25) := Lib.hid (hk3 (by omega) (by omega) HQ01.out)
    have HR1 : Hid (Boxed w3 (w.heap.size + 1) 23 (.slice none 0 0)) := Lib.hid (hk3 (by omega) (by omega) ((HB1.out.block _ (by have := HS3.out; omega)).trans HQ1.out))
    have HR2 : Hid (Boxed w3 (w.heap.size + 1 + 1) 4 (.bool false)) := Lib.hid (hk3 (by omega) (by omega) ((HB1.out.block _ (by have := HS3.out; omega)).trans HQ2.out))
    have HSZ : Hid (w.heap.size + 1 + 1 < w3.heap.size) := Lib.hid (by omega)
    rw [← hbm]
    clear hlo hseq bx hk3 hw3 hs31 hs1 hbm z0
    gi_wp2
    refine wpIn_rangeFunc_butB (n := 6) h16 (gf := 115) (lb := #[.pointer (some ⟨bm, 0, none⟩)]) rfl (enters_of Tryd.func115 (by kernel_rfl) rfl)
      HSEQ.out (Below.refl _ _) (fun j e => by have := HSZ.out; omega) (fun _ => rfl)
      (fun x A l' o h hl => ⟨h.1, by obtain ⟨a', c', e, hi⟩ := h.2; exact ⟨a', c', e, by have := ints_putObj (o := o) hi hl; simpa using this⟩⟩)
      (fun pre Wr => (∀ y ∈ pre, brkC zs (nI y.2) = true) ∧ Boxed Wr (w.heap.size + 1) 23 (.slice none 0 0) ∧ Boxed Wr (w.heap.size + 1 + 1) 4 (.bool false) ∧ But (fun j => j = w.heap.size + 1 ∨ j = w.heap.size + 1 + 1) w3 Wr)
      (fun pre Wr => ∃ pre0 x a' c', pre = pre0 ++ [x] ∧ (∀ y ∈ pre0, brkC zs (nI y.2) = true) ∧ brkC zs (nI x.2) = false ∧ x.2.length = m ∧ Boxed Wr (w.heap.size + 1) 23 (.slice a' m c') ∧ Boxed Wr (w.heap.size + 1 + 1) 4 (.bool true) ∧ OwnN Wr w.heap.size a' m c' (nI x.2) ∧ Below w.heap.size w Wr)
      ?own ?ownx ⟨fun y h => by simp at h, HR1.out, HR2.out, But.refl _ _⟩
      (fun x a' _ => a' = { tmps := #[.agg #[.int .i64 (m : Int), .slice a zs.length c], .pointer (some ⟨w.heap.size, 0, none⟩), .pointer (some ⟨w.heap.size + 1, 0, none⟩), .pointer (some ⟨w.heap.size + 1 + 1, 0, none⟩), x.1, .agg #[.int .i64 (m : Int), .slice a zs.length c], .bool true, .bool false, .pointer (some ⟨w.heap.size, 0, none⟩), .int .i64 (m : Int), .func (.func 115) #[] #[.pointer (some ⟨bm, 0, none⟩)], x.1, undef, undef, undef, undef, undef], defers := [] })
      (fun _ _ _ _ _ h _ => h) ?assign ?body ?done ?stop
    case own =>
      rintro s A C row ⟨h0, h1, h2, hb⟩ hg hr
      have hs3 := HSZ.out
      refine ⟨h0, HasBlk.kept h1 hg (fun e => by have := hr _ e; omega), HasBlk.kept h2 hg (fun e => by have := hr _ e; omega), ?_⟩
      exact ⟨hg.os.trans hb.os, hg.tape.trans hb.tape, hg.output.trans hb.output, Nat.le_trans hb.size hg.size, fun i hi hX => (hg.block i (Nat.lt_of_lt_of_le hi hb.size) (fun e => by have := hr i e.symm; omega)).trans (hb.same i hi hX)⟩
    case ownx =>
      rintro s A C row ⟨pre0, x, a', c', h0, hp0, hxb, hxl, h1, h2, h3, hb⟩ hg hr
      have hs3 := HSZ.out
      refine ⟨pre0, x, a', c', h0, hp0, hxb, hxl, HasBlk.kept h1 hg (fun e => by have := (hr _ e).1; omega), HasBlk.kept h2 hg (fun e => by have := (hr _ e).1; omega), h3.kept hg ?_, hb.grown hg hb.size (fun r e => by have := (hr r e).1; omega)⟩
      rcases h3.2 with ⟨e0, _⟩ | ⟨g, cap, cur, e0, _, hgb, _⟩
      · left; injection e0 with e1 e2 e3; subst e1; subst e3; rw [e2]; rfl
      · refine .inr fun e' => ?_
        obtain ⟨-, o, ho, hc⟩ := hr g (by rw [e0] at e'; simpa [Value.ownBlock] using e'.symm)
        rw [hgb] at ho; cases ho
        rcases hc with hc | ⟨v, hv⟩
        · cases hc
        · injection hv with _ hv _; cases hv
    case assign =>
      rintro l1 pre ⟨x1, x2⟩ Wr K hI ⟨⟨hlen, hlt2⟩, a', c', ha', hints⟩ hsz hK
      dsimp only at ha' hlen hlt2 hints
      subst ha'
      have HL := Lib.hid hlen
      clear hlen
      gi_wp2
      exact hK _ _ (But.refl _ _) hI ⟨⟨HL.out, hlt2⟩, _, _, rfl, hints⟩ rfl
    case body =>
      rintro l1 pre ⟨x1, x2⟩ a2 Wr hl1' ⟨h0, h1, h2, hb⟩ ⟨⟨hlen, hlt2⟩, a', c', ha', hints⟩ rfl hlt
      dsimp only at ha' hlen hlt2 hints
      rw [hlen] at ha'
      subst ha'
      obtain ⟨g, o, rfl⟩ : ∃ g o, a' = some ⟨g, o, none⟩ := by
        rcases hints with h | ⟨b, o, e, _⟩
        · have := congrArg List.length h; rw [nI_len, hlen] at this; simp at this; omega
        · exact ⟨b, o, e⟩
      have hnl : (nI x2).length = m := by rw [nI_len, hlen]
      have hsz3 := HSZ.out
      have hszW : w3.heap.size ≤ Wr.heap.size := hb.size
      have qf : HasBlk Wr w.heap.size #[.int .i64 (m : Int), .slice a zs.length c] 25 := hb.keep (by omega) HQ3.out
      have v0 := (blk_cell qf 0).trans (cell2_0 _ _)
      have v1 := (blk_cell qf 1).trans (cell2_1 _ _)
      have hbl : Below w.heap.size w Wr := HLO.out.trans (hb.below HLO.out.size (fun j e => by omega))
      have hev := evenIn_any m hm6 (m : Int) a c zs (some ⟨g, o, none⟩) c' (nI x2) (nI_in6 hm6 hlt2) (by omega) Wr ((HA.out.below hbl).mono hbl.size) hints hx HSET.out
      rw [hnl] at hev
      have hcl : ∀ W4, Below Wr.heap.size Wr W4 → Calls Tryd.prog 82 #[.slice (some ⟨g, o, none⟩) m c'] W4 fun e w' => ∃ a' c'', e = .returned (.slice a' m c'') ∧ OwnN w' W4.heap.size a' m c'' (nI x2) ∧ Below W4.heap.size W4 w' := fun W4 h4 => clone_any g o c' m (nI x2) hnl (by omega) W4 ((hints.below h4).mono h4.size)
      have HEV := Lib.hid hev
      have HCL := Lib.hid hcl
      have HL := Lib.hid hlen
      have H0 := Lib.hid h0
      have H1 := Lib.hid h1
      have H2 := Lib.hid h2
      have HB := Lib.hid hb
      obtain ⟨bk, hbk⟩ : ∃ bk, bk = brkC zs (nI x2) := ⟨_, rfl⟩
      have HBK := Lib.hid hbk
      rw [← hbk] at HEV
      clear hcl hev hlen hlt2 h0 h1 h2 hb hints hbk hnl qf hbl
      dsimp only
      gi_wp2_with fail
      refine ⟨trivial, ?_⟩
      refine (CallsIn.inRound l1 (callsIn_wide.2 HEV.out)).mono ?_
      rintro e w5 ⟨rfl, hb5⟩
      cases bk
      · have HB5 := Lib.hid hb5
        have HCL5 := Lib.hid (HCL.out w5 hb5)
        clear hb5
        gi_wp2_with fail
        refine ⟨trivial, ?_⟩
        refine (CallsIn.inRound l1 (callsIn_wide.2 HCL5.out)).mono ?_
        rintro e w4 ⟨a4, c4, rfl, ho4, hb4⟩
        have hb54 : Below Wr.heap.size Wr w4 := HB5.out.trans (hb4.mono HB5.out.size)
        have hs5 := HB5.out.size
        have r1 : Boxed w4 (w.heap.size + 1) 23 (.slice none 0 0) := (hb54.block _ H1.out.lt).trans H1.out
        have r2 : Boxed w4 (w.heap.size + 1 + 1) 4 (.bool false) := (hb54.block _ H2.out.lt).trans H2.out
        have c1 := r1.cell
        have f1 := r1.frozen
        have r2' : Boxed (w4.setCell ⟨w.heap.size + 1, 0, none⟩ (.slice a4 m c4)) (w.heap.size + 1 + 1) 4 (.bool false) := Boxed.other r2 (by omega) _
        have c2 := r2'.cell
        have f2 := r2'.frozen
        have ho5 : OwnN ((w4.setCell ⟨w.heap.size + 1, 0, none⟩ (.slice a4 m c4)).setCell ⟨w.heap.size + 1 + 1, 0, none⟩ (.bool true)) w5.heap.size a4 m c4 (nI x2) :=
          ownsRow_setCell_ne (p := ⟨w.heap.size + 1 + 1, 0, none⟩) (ownsRow_setCell_ne (p := ⟨w.heap.size + 1, 0, none⟩) ho4 (ho4.ne (.inl (show w.heap.size + 1 < w5.heap.size by omega))) _) (ho4.ne (.inl (show w.heap.size + 1 + 1 < w5.heap.size by omega))) _
        have hbt : But (fun j => j = w.heap.size + 1 ∨ j = w.heap.size + 1 + 1) Wr ((w4.setCell ⟨w.heap.size + 1, 0, none⟩ (.slice a4 m c4)).setCell ⟨w.heap.size + 1 + 1, 0, none⟩ (.bool true)) := ((But.of_below hb54).trans (But.setCell _ _ _ _ (fun _ => .inl rfl))).trans (But.setCell _ _ _ _ (fun _ => .inr rfl))
        have HBT := Lib.hid hbt
        have HO5 := Lib.hid ho5
        have HE1 : Hid (Boxed ((w4.setCell ⟨w.heap.size + 1, 0, none⟩ (.slice a4 m c4)).setCell ⟨w.heap.size + 1 + 1, 0, none⟩ (.bool true)) (w.heap.size + 1) 23 (.slice a4 m c4)) := Lib.hid (Boxed.other (r1.set _) (by omega) _)
        have HE2 : Hid (Boxed ((w4.setCell ⟨w.heap.size + 1, 0, none⟩ (.slice a4 m c4)).setCell ⟨w.heap.size + 1 + 1, 0, none⟩ (.bool true)) (w.heap.size + 1 + 1) 4 (.bool true)) := Lib.hid (r2'.set _)
        clear r1 r2 r2' ho4 hb4 ho5 hbt hb54
        gi_wp2
        have hbw : Below w.heap.size w ((w4.setCell ⟨w.heap.size + 1, 0, none⟩ (.slice a4 m c4)).setCell ⟨w.heap.size + 1 + 1, 0, none⟩ (.bool true)) := HLO.out.trans ((HB.out.trans HBT.out).below HLO.out.size (fun j e => by omega))
        exact ⟨HBT.out, pre, (.slice (some ⟨g, o, none⟩) m c', x2), a4, c4, rfl, H0.out, HBK.out.symm, HL.out, HE1.out, HE2.out, HO5.out.base (by omega), hbw⟩
      · have r1 : Boxed w5 (w.heap.size + 1) 23 (.slice none 0 0) := (hb5.block _ H1.out.lt).trans H1.out
        have r2 : Boxed w5 (w.heap.size + 1 + 1) 4 (.bool false) := (hb5.block _ H2.out.lt).trans H2.out
        have HE1 := Lib.hid r1
        have HE2 := Lib.hid r2
        have HB5 := Lib.hid hb5
        clear r1 r2 hb5
        gi_wp2
        refine ⟨But.of_below HB5.out, fun y hy => ?_, HE1.out, HE2.out, HB.out.trans (But.of_below HB5.out)⟩
        rcases List.mem_append.1 hy with h | h
        · exact H0.out y h
        · rw [List.mem_singleton.1 h]; exact HBK.out.symm
    case done =>
      rintro E xs Wr hE hS ⟨h0, h1, h2, hb⟩ hK
      have HFN := Lib.hid (firstO_none hS h0)
      have hsz3 := HSZ.out
      have hb1 : But (fun j => j = w.heap.size + 1 ∨ j = w.heap.size + 1 + 1) Wr ((Wr.setCell ⟨w.heap.size + 1, 0, none⟩ (.slice none 0 0)).setCell ⟨w.heap.size + 1 + 1, 0, none⟩ (.bool false)) := (But.setCell _ _ _ _ (fun _ => .inl rfl)).trans (But.setCell _ _ _ _ (fun _ => .inr rfl))
      have hK5 := hb1.keep (k := E) (by omega) hK
      have c1 := h1.cell
      have f1 := h1.frozen
      have h2' : Boxed (Wr.setCell ⟨w.heap.size + 1, 0, none⟩ (.slice none 0 0)) (w.heap.size + 1 + 1) 4 (.bool false) := Boxed.other h2 (by omega) _
      have c2 := h2'.cell
      have f2 := h2'.frozen
      have e1 : HasBlk (((Wr.setCell ⟨w.heap.size + 1, 0, none⟩ (.slice none 0 0)).setCell ⟨w.heap.size + 1 + 1, 0, none⟩ (.bool false)).putObj E (.deferred none)) (w.heap.size + 1) #[.slice none 0 0] 23 := (World.putObj_heap_other (by omega)).trans (Boxed.other (h1.set _) (by omega) _)
      have e2 : HasBlk (((Wr.setCell ⟨w.heap.size + 1, 0, none⟩ (.slice none 0 0)).setCell ⟨w.heap.size + 1 + 1, 0, none⟩ (.bool false)).putObj E (.deferred none)) (w.heap.size + 1 + 1) #[.bool false] 4 := (World.putObj_heap_other (by omega)).trans (h2'.set _)
      have g1 := (blk_cell e1 0).trans (cell1_0 _)
      have g2 := (blk_cell e2 0).trans (cell1_0 _)
      have HBW : Hid (Below w.heap.size w ((Wr.setCell ⟨w.heap.size + 1, 0, none⟩ (.slice none 0 0)).setCell ⟨w.heap.size + 1 + 1, 0, none⟩ (.bool false))) := Lib.hid (HLO.out.trans ((hb.trans hb1).below HLO.out.size (fun j e => by omega)))
      have HK5 := Lib.hid hK5
      clear h1 h2 h2' hb hb1 hK hK5 e1 e2 hS h0
      gi_wp2
      refine ⟨by simp, .inl ⟨_, _, rfl, run_takeDeferred HK5.out, ?_⟩⟩
      refine ⟨.tuple #[.slice none 0 0, .bool false], by simp [results, Tryd.results35, go_sem, g1, g2], none, 0, by rw [HFN.out]; rfl, by rw [HFN.out]; exact World.ownsRow_nil _ _ _ _, ?_⟩
      exact HBW.out.grown (grownBy_putObj' _ E _) HBW.out.size (fun g e => by injection e; omega)
    case stop =>
      rintro E pre Wr hE ⟨hS, -⟩ ⟨pre0, x, a', c', h0, hp0, hxb, hxl, h1, h2, h3, hb⟩ hK
      rw [h0] at hS
      have hF : firstO m zs = some x.2 := firstO_some hS hp0 hxb
      rw [hF, Option.getD_some, Option.isSome_some]
      have hsz3 := HSZ.out
      have e1 : HasBlk (Wr.putObj E (.deferred none)) (w.heap.size + 1) #[.slice a' m c'] 23 := (World.putObj_heap_other (by omega)).trans h1
      have e2 : HasBlk (Wr.putObj E (.deferred none)) (w.heap.size + 1 + 1) #[.bool true] 4 := (World.putObj_heap_other (by omega)).trans h2
      have g1 := (blk_cell e1 0).trans (cell1_0 _)
      have g2 := (blk_cell e2 0).trans (cell1_0 _)
      have HO' : Hid (OwnN (Wr.putObj E (.deferred none)) w.heap.size a' m c' (nI x.2)) := Lib.hid (ownsRow_putObj h3 _ hK rfl)
      have HBW := Lib.hid hb
      have HK5 := Lib.hid hK
      have HXL : Hid ((nI x.2).length = m) := Lib.hid (by rw [nI_len, hxl])
      clear h1 h2 h3 hb hK e1 e2 hS h0 hF hxl hp0 hxb
      gi_wp2
      refine ⟨by simp, .inl ⟨_, _, rfl, run_takeDeferred HK5.out, ?_⟩⟩
      refine ⟨.tuple #[.slice a' m c', .bool true], by simp [results, Tryd.results35, go_sem, g1, g2], a', c', by rw [HXL.out], by unfold OwnI; rw [HXL.out]; exact HO'.out, ?_⟩
      exact HBW.out.grown (grownBy_putObj' _ E _) HBW.out.size (fun g e => by injection e; omega)

end Go.Proofs.YtacglafoahmcnaaDoor

/- It is proved what the model's l8Even returns; conditions: those of each statement. -/
namespace Go.Proofs.YtacglafoahmcnaaDoor
open Go.RowKit Go.Shelf

theorem bit_one {s v : Nat} (hs : s < 64) (hv : v < 6) (h : s.testBit v = true) : bits BinOp.and IntKind.i64 ((s : Int) / 2 ^ v) 1 = 1 := by
  rw [bit_at s v hs hv, bit_if s hs v hv, if_pos h]; rfl

theorem bit_zero {s v : Nat} (hs : s < 64) (hv : v < 6) (h : s.testBit v = false) : bits BinOp.and IntKind.i64 ((s : Int) / 2 ^ v) 1 = 0 := by
  rw [bit_at s v hs hv, bit_if s hs v hv, if_neg (by rw [h]; decide)]; rfl

set_option maxRecDepth 100000 in
set_option maxHeartbeats 4000000 in
theorem l8Even_any (z : Nat) (hz : z < 64) (a : Option Addr) (c : Nat) (o : List Int) (ho : ∀ x ∈ o, 0 ≤ x ∧ x < 6) (hol : o.length ≤ 6) (w : World) (ha : Ints w w.heap.size a o) :
    Calls Tryd.prog 84 #[.slice a o.length c, .int .i64 (z : Int)] w fun e w' => e = .returned (.bool (!brkB o z)) ∧ w = w' := by
  have HU : Hid ((!brkB o z) = decide (((runF (atF z o) o.length : Nat) : Int) ≤ 1)) := Lib.hid (by
    unfold brkB
    rw [Bool.not_not, unb_run _ _ hol]
    congr 1
    exact propext (by omega))
  rw [HU.out]
  obtain ⟨N, hN⟩ : ∃ N, N = o.length := ⟨_, rfl⟩
  have HN := Lib.hid hN
  have HI := Lib.hid ha
  have HO := Lib.hid ho
  rw [← hN]
  rw [← hN] at hol
  clear hN ha ho HU
  go_enter Tryd.func84, Tryd.ntmps84
  go_wp2
  go_loop [5, 6] (fun x i => ∃ k : Nat, k ≤ N ∧ i = .int .i64 k ∧ x = .int .i64 ((runF (atF z o) k : Nat) : Int)) (fun _ i => N - (intOf i).toNat)
  case atStart => exact ⟨0, Nat.zero_le _, rfl, rfl⟩
  case round =>
    obtain ⟨j, hk, rfl, rfl⟩ := hrel
    by_cases hlt : j < N
    · have hki : (j : Int) < (N : Int) := by omega
      have hk0 : (0 : Int) ≤ (j : Int) := by omega
      obtain ⟨b1, o1, rfl, hb1, hc⟩ := HI.out.at_ (k := j) (by rw [← HN.out]; exact hlt)
      have hvm := HO.out _ (getD_mem (zs := o) (i := j) (by rw [← HN.out]; exact hlt))
      obtain ⟨v, hv⟩ : ∃ v : Nat, o[j]?.getD 0 = (v : Int) := ⟨(o[j]?.getD 0).toNat, by have := hvm.1; omega⟩
      have hv6 : v < 6 := by have := hvm.2; omega
      have HAT : Hid (atF z o j = z.testBit v) := Lib.hid (by unfold atF; rw [hv, Int.toNat_natCast])
      rw [hv] at hc
      have HPL : Hid (runF (atF z o) (j + 1) = if z.testBit v && (j == 0 || !atF z o (j - 1)) then runF (atF z o) j + 1 else runF (atF z o) j) := Lib.hid (by rw [← HAT.out]; rfl)
      have hp := runF_le (atF z o) j
      obtain ⟨P, hP⟩ : ∃ P, P = runF (atF z o) j := ⟨_, rfl⟩
      rw [← hP] at hp HPL
      rw [← hP]
      have hPI : (P : Int) ≤ 6 := by omega
      have hv0 : (0 : Int) ≤ (v : Int) := by omega
      have hv64 : (v : Int) < 64 := by omega
      clear hP hvm hv hp
      cases hb : z.testBit v
      · have hz0 := bit_zero hz hv6 hb
        have HR : Hid (runF (atF z o) (j + 1) = P) := Lib.hid (by rw [HPL.out, hb]; rfl)
        clear hb
        go_wp2
        go_round
        case rel => exact ⟨j + 1, by omega, by go_num, by rw [HR.out]⟩
        case measure => simp [intOf]; omega
      · have hz1 := bit_one hz hv6 hb
        by_cases hj0 : j = 0
        · subst hj0
          have HR : Hid (runF (atF z o) (0 + 1) = P + 1) := Lib.hid (by rw [HPL.out, hb]; rfl)
          clear hb HPL
          rw [Nat.add_zero] at hc
          go_wp2
          go_round
          case rel => exact ⟨0 + 1, by omega, by go_num, by rw [HR.out]; go_num⟩
          case measure => simp [intOf]; omega
        · have hjI : ¬ ((j : Int) = 0) := by omega
          obtain ⟨b2, o2, e2, hb2, hc2⟩ := HI.out.at_ (k := j - 1) (by rw [← HN.out]; omega)
          injection e2 with e2
          injection e2 with e2 e3 _
          subst e2 e3
          have hum := HO.out _ (getD_mem (zs := o) (i := j - 1) (by rw [← HN.out]; omega))
          obtain ⟨u, hu⟩ : ∃ u : Nat, o[j - 1]?.getD 0 = (u : Int) := ⟨(o[j - 1]?.getD 0).toNat, by have := hum.1; omega⟩
          have hu6 : u < 6 := by have := hum.2; omega
          have HAU : Hid (atF z o (j - 1) = z.testBit u) := Lib.hid (by unfold atF; rw [hu, Int.toNat_natCast])
          rw [hu] at hc2
          have hu0 : (0 : Int) ≤ (u : Int) := by omega
          have hu64 : (u : Int) < 64 := by omega
          obtain ⟨i, rfl⟩ : ∃ i, j = i + 1 := ⟨j - 1, by omega⟩
          rw [Nat.add_sub_cancel] at hc2 HAU HPL
          have hcast : ((i + 1 : Nat) : Int) - 1 = (i : Int) := by omega
          clear hum hu
          cases hbu : z.testBit u
          · have hzu := bit_zero hz hu6 hbu
            have HR : Hid (runF (atF z o) (i + 1 + 1) = P + 1) := Lib.hid (by rw [HPL.out, hb, HAU.out, hbu]; simp)
            clear hb hbu
            go_wp2
            go_round
            case rel => exact ⟨i + 1 + 1, by omega, by go_num, by rw [HR.out]; go_num⟩
            case measure => simp [intOf]; omega
          · have hzu := bit_one hz hu6 hbu
            have HR : Hid (runF (atF z o) (i + 1 + 1) = P) := Lib.hid (by rw [HPL.out, hb, HAU.out, hbu]; simp)
            clear hb hbu
            go_wp2
            go_round
            case rel => exact ⟨i + 1 + 1, by omega, by go_num, by rw [HR.out]⟩
            case measure => simp [intOf]; omega
    · obtain rfl : j = N := by omega
      go_wp2
      go_ret
      exact ⟨rfl, rfl⟩

end Go.Proofs.YtacglafoahmcnaaDoor
