/- It is proved what the sum by 2 of clubs at some places is, of the program and of the reference model; conditions: those of each statement. -/
import Derived.RowKit
import Derived.Laws.CopyRow
import Derived.Lib.SlBuf
import Derived.Deep.QuietTactic
import Derived.RangeFuncNested
import Derived.RangeFuncBound
import Derived.RangeFuncCalls
import Derived.RangeFuncLeaves
import Derived.RangeFuncBox
import Derived.RangeFuncWrites
import Derived.StillTailTactics
import Derived.Maps.OwnIn
import Derived.Maps.Ext
import Derived.DeepKeys4
import Derived.MapKept
import Derived.Test.YtdkdndcogdeopaaDoorRows
import Derived.WalkKit
import Derived.WalkSpells
import Derived.ProofKit
import Derived.OpenShut
import Derived.ShutString
import Derived.ChangeOld
import Derived.Below
import Derived.Deep.RegionHeld3
import Derived.BigQuiet
import Derived.Lib.Hide
import Derived.Lib.SmallJoins
import Derived.Outline
import Derived.Laws.MakeOwn
import Derived.Laws.OwnMore
import Derived.IntWalk
import Derived.Maps.AppendAt
import Derived.Deep.RegionLaw
import Derived.Deep.AppendLies
import Derived.Lib.AppendZeros
import Derived.OwnWalk
import Derived.Lib.SlicesCompact
import Derived.Lib.OwnBridge
import Derived.OrdersIn
import Derived.TacticsIn
import Derived.Shelf.Sort.Plain
import Derived.Shelf.Slices.In.SortNone
import Derived.Shelf.Slices.CompactI
import Derived.Ground.Names2Prog
import Derived.Lib.SliceRun
import Derived.Shelf.RegionOpen
import Derived.Shelf.Abstract
import Derived.OwnWalkIn
import Derived.TacticsInMore
import Derived.LoopNIn
import Derived.LoopIn
import Derived.StillTail
import Derived.StillTactics
import Derived.Shelf.Spec.TrailingZeros
import Derived.Test.YtdkdndcogdeopaaDoorB
import Derived.Test.YtdkdndcogdeopaaDoorC
import Derived.Test.YtdkdndcogdeopaaDoorE
import Derived.Test.YtdkdndcogdeopaaDoorF
import Derived.Test.YtdkdndcogdeopaaDoorGa
import Derived.Test.YtdkdndcogdeopaaDoorGb
import Derived.Test.YtdkdndcogdeopaaDoorKa
import Derived.Test.YtdkdndcogdeopaaDoorKb
import Derived.Test.YtdkdndcogdeopaaDoorKc
import Derived.Test.YtdkdndcogdeopaaDoorKd
import Derived.Test.YtdkdndcogdeopaaDoorKh
import Derived.Test.YtdkdndcogdeopaaDoorKm
import Derived.Test.YtdkdndcogdeopaaDoorMd
import Derived.Test.YtdkdndcogdeopaaDoorMe
import Derived.Test.YtdkdndcogdeopaaDoorP
import Derived.Test.YtdkdndcogdeopaaDoorSa
import Derived.Test.YtdkdndcogdeopaaDoorSt
import Derived.Test.YtdkdndcogdeopaaDoorT
import Derived.Test.YtdkdndcogdeopaaDoorTa
namespace Go.Proofs.YtdkdndcogdeopaaDoor
open Go.RowKit Go.Shelf

attribute [local go_sem] Oper.semAt_some

set_option maxRecDepth 100000 in
theorem xor6_fin : ∀ x : Fin 64, ∀ y : Fin 64, bits BinOp.xor IntKind.i64 (x.val : Int) (y.val : Int) = ((x.val ^^^ y.val : Nat) : Int) := by decide +kernel

theorem xor6_at (x y : Nat) (hx : x < 64) (hy : y < 64) : bits BinOp.xor IntKind.i64 (x : Int) (y : Int) = ((x ^^^ y : Nat) : Int) := xor6_fin ⟨x, hx⟩ ⟨y, hy⟩
/-- The sum by 2 of clubs at some places, and one more set. -/
def xorU (zs : List Int) (t : Nat) (ps : List Nat) : Nat := ps.foldl (fun t p => t ^^^ (zs[p]?.getD 0).toNat) t

theorem xorU_snoc (zs : List Int) (t : Nat) (ps : List Nat) (p : Nat) : xorU zs t (ps ++ [p]) = xorU zs t ps ^^^ (zs[p]?.getD 0).toNat := by simp [xorU]
theorem xorU_pow {K : Nat} {zs : List Int} (hz : ∀ z ∈ zs, z.toNat < 2 ^ K) : ∀ (ps : List Nat) (t : Nat), t < 2 ^ K → xorU zs t ps < 2 ^ K
  | [], t, h => h
  | p :: ps, t, h => by
    rw [xorU, List.foldl_cons]
    refine xorU_pow hz ps _ (Nat.xor_lt_two_pow h ?_)
    by_cases hp : p < zs.length
    · rw [List.getElem?_eq_getElem hp]; exact hz _ (List.getElem_mem _)
    · rw [List.getElem?_eq_none (by omega)]; exact Nat.two_pow_pos K

theorem xorU_lt {zs : List Int} (hz : ∀ z ∈ zs, z.toNat < 64) (ps : List Nat) (t : Nat) (h : t < 64) : xorU zs t ps < 64 := xorU_pow (K := 6) hz ps t h
/-- The sum of the clubs at some places. -/
def sumK (zs : List Int) (p : Nat) : Nat := xorU zs 0 (memK zs.length p)

set_option maxRecDepth 100000 in
set_option maxHeartbeats 4000000 in
theorem sum_any (m : Nat) (hm : m ≤ 6) (a : Option Addr) (c : Nat) (zs : List Int) (p : Nat) (w : World) (ha : Ints w w.heap.size a zs) (h8 : zs.length ≤ 8) (hz : Sets m zs) (hp : p < 2 ^ zs.length) (hT : Tab w) :
    Calls Tryd.prog 66 #[.agg #[.int .i64 (m : Int), .slice a zs.length c], .int .i64 (p : Int)] w fun e w' => e = .returned (.int .i64 ((sumK zs p : Nat) : Int)) ∧ Below w.heap.size w w' := by
  have hp256 : p < 256 := by have := Nat.pow_le_pow_right (n := 2) (by decide) h8; omega
  have hz64 : ∀ z ∈ zs, z.toNat < 64 := fun z h => p64 hm (hz z h).2
  have hT1 := hT.lt
  have HR : Hid (sumK zs p = xorU zs 0 (memK zs.length p)) := Lib.hid rfl
  obtain ⟨n, hn⟩ : ∃ n, n = zs.length := ⟨_, rfl⟩
  have hmem : memK 8 p = memK n p := memW_is (by omega) (by rw [hn]; exact hp)
  have h16 : 1 ≤ 6 := by omega
  have hmx : Tryd.prog.follows .mixedOrders = true := by kernel_rfl
  obtain ⟨W3, hW3, q0, q2, hs3, hb3⟩ : ∃ W3, (w.alloc (.cells #[.int .i64 (m : Int), .slice a zs.length c] 25)).alloc (.cells #[.int .i64 0] 45) = W3 ∧ HasBlk W3 w.heap.size #[.int .i64 (m : Int), .slice a zs.length c] 25 ∧ HasBlk W3 (w.heap.size + 1) #[.int .i64 0] 45 ∧ W3.heap.size = w.heap.size + 1 + 1 ∧ Below w.heap.size w W3 :=
    ⟨_, rfl, alloc2_0 w _ _, alloc2_1 w _ _, by simp, below2 w _ _⟩
  obtain ⟨W4, hW4, r3, hs4, hb4⟩ : ∃ W4, W3.alloc (.cells #[.int .i64 (p : Int)] 45) = W4 ∧ HasBlk W4 (w.heap.size + 1 + 1) #[.int .i64 (p : Int)] 45 ∧ W4.heap.size = W3.heap.size + 1 ∧ Below W3.heap.size W3 W4 :=
    ⟨_, rfl, by have := alloc_new W3 (.cells #[.int .i64 (p : Int)] 45); rwa [hs3] at this, by simp, below1 W3 _⟩
  have hb04 := hb3.trans (hb4.mono (show w.heap.size ≤ W3.heap.size by omega))
  have HQ0 : Hid (HasBlk W4 w.heap.size #[.int .i64 (m : Int), .slice a zs.length c] 25) := Lib.hid ((hb4.block _ (by omega)).trans q0)
  have HQ2 : Hid (HasBlk W4 (w.heap.size + 1) #[.int .i64 0] 45) := Lib.hid ((hb4.block _ (by omega)).trans q2)
  have hst := membersW_stops (6 - 1) (by omega) (w.heap.size + 1 + 1) w.heap.size p hp256 W4 (by omega) (by omega) (by omega) ((blk_cell r3 0).trans (cell1_0 _)) (hT.below hb04 hT1)
  have HST := Lib.hid hst
  have HB4 := Lib.hid hb04
  have HI := Lib.hid (ha.below hb04)
  have HW3 := Lib.hid hW3
  have HW4 := Lib.hid hW4
  have HS3 := Lib.hid hs3
  have HS4 := Lib.hid hs4
  have HMEM := Lib.hid hmem
  have HN := Lib.hid hn
  have HZ := Lib.hid hz
  have HZ64 := Lib.hid hz64
  rw [← hn] at HQ0 HR ⊢
  clear ha q0 q2 r3 hb3 hb4 hb04 hst hW3 hW4 hs3 hs4 hmem hT hz hz64 hn hp
  refine (callsIn_wide (n := 6)).1 ?_
  refine callsIn_of_wp_marks Tryd.func66 rfl trivial ?_ rfl
  simp only [Tryd.ntmps66, List.size_toArray, List.length_cons, List.length_nil, Nat.reduceAdd, Nat.reduceSub, Array.replicate_succ, Array.replicate_zero, List.push_toArray, List.append_toArray, List.nil_append, List.cons_append]
  gi_wp2_with (refine ⟨trivial, ?_⟩; gi_at_call 73; refine (callsIn_wide.2 (members_any _ _)).mono ?_; rintro e w' ⟨rfl, rfl⟩)
  rw [HN.out, HW3.out, HW4.out]
  rw [← HN.out]
  refine wpIn_rangeFunc_ownG rfl h16 (gf := 95) (lb := #[.pointer (some ⟨w.heap.size + 1 + 1, 0, none⟩)]) rfl trivial (enters_of Tryd.func95 (by kernel_rfl) rfl)
    HST.out belowK_t (belowK_b (by have := HS3.out; have := HS4.out; omega)) (Below.refl _ _) (fun _ => rfl)
    (fun pre W => (HasBlk W w.heap.size #[.int .i64 (m : Int), .slice a n c] 25 ∧ HasBlk W (w.heap.size + 1) #[.int .i64 ((xorU zs 0 (valsW pre) : Nat) : Int)] 45) ∧ Below w.heap.size w W)
    (fun _ _ _ => False)
    ?own (fun _ _ _ _ _ hs _ _ => hs)
    ⟨⟨HQ0.out, HQ2.out⟩, HB4.out⟩
    (fun x => { tmps := #[.agg #[.int .i64 (m : Int), .slice a n c], .int .i64 (p : Int), .pointer (some ⟨w.heap.size, 0, none⟩), undef, .int .i64 0, .pointer (some ⟨w.heap.size + 1, 0, none⟩), .int .i64 (x.1 : Int), .int .i64 (p : Int), .func (.func 95) #[] #[.pointer (some ⟨w.heap.size + 1 + 1, 0, none⟩)], .int .i64 (x.1 : Int), undef, undef, undef, undef, undef, undef, undef, undef], defers := [] }) ?assign ?body ?done ?stop
  case own =>
    rintro s A B row ⟨⟨h2, h4⟩, h5⟩ hg hr
    have hr' : ∀ (b : Nat) (cs : Array Value) (t : TypeId), HasBlk A b cs t → row ≠ some b := fun b cs t hb e => by
      obtain ⟨-, o, ho, hc⟩ := hr b e
      rw [show A.heap[b]? = _ from hb] at ho; cases ho; cases hc
    exact ⟨⟨h2.kept hg (hr' _ _ _ h2), h4.kept hg (hr' _ _ _ h4)⟩, h5.grown hg (by have := h5.size; omega) (fun r e => by have := (hr r e).1; have := HS3.out; have := HS4.out; omega)⟩
  case assign =>
    intro l x W K hK
    gi_wp2
    exact hK
  case body =>
    rintro l pre ⟨x, hxm⟩ W ⟨⟨h1, h3⟩, hB⟩ hlt
    obtain ⟨xx, hxx⟩ : ∃ xx : MemW p, xx = ⟨x, hxm⟩ := ⟨_, rfl⟩
    have hxn : x < n := by rw [HMEM.out] at hxm; exact memK_lt hxm
    obtain ⟨b1, o1, rfl, hb1, hc1⟩ := HI.out.at_ (k := x) (by rw [← HN.out]; exact hxn)
    have hin := at_in (xs := zs) (k := x) (by rw [← HN.out]; exact hxn)
    obtain ⟨z, hzz⟩ : ∃ z : Nat, zs[x]?.getD 0 = (z : Int) := ⟨(zs[x]?.getD 0).toNat, by have := (HZ.out _ hin).1; omega⟩
    have hz6 := HZ64.out _ hin
    rw [hzz, Int.toNat_natCast] at hz6
    rw [hzz] at hc1
    have hM := xorU_lt HZ64.out (valsW pre) 0 (by decide)
    have HSM : Hid (xorU zs 0 (valsW (pre ++ [xx])) = xorU zs 0 (valsW pre) ^^^ z) := Lib.hid (by
      rw [valsW_snoc, hxx, xorU_snoc, hzz, Int.toNat_natCast])
    obtain ⟨M, hMM⟩ : ∃ M, M = xorU zs 0 (valsW pre) := ⟨_, rfl⟩
    rw [← hMM] at hM HSM h3
    have x1 := (blk_cell h1 1).trans (cell2_1 _ _)
    have c1 := (hB.cell (p := ⟨b1, o1 + x, none⟩) hb1).trans ((HB4.out.cell (p := ⟨b1, o1 + x, none⟩) hb1).symm.trans hc1)
    have m0 := (blk_cell h3 0).trans (cell1_0 _)
    have m1 := blk_frozen h3 0
    have H1 := Lib.hid h1
    have H3 := Lib.hid h3
    have HB := Lib.hid hB
    have hxI : (x : Int) < (n : Int) := by omega
    have HOR := xor6_at M z hM hz6
    dsimp only
    rw [← hxx]
    clear h1 h3 hB hxm hxx hin hzz hc1 hMM
    gi_wp2
    refine wpIn_region_still_tail_o (Fence.Open.wide.inRound l) 7 hmx (by kernel_rfl) (by kernel_rfl) ?_
    simp only [List.take_succ_cons, List.take_zero, List.drop_succ_cons, List.drop_zero]
    repeat still_step
    refine wpStill_nil ?_
    change wpListIn _ _ _ _ _ _ _ W.drew
    have m1' : W.drew.frozen? ⟨w.heap.size + 1, 0, none⟩ = false := m1
    gi_wp2
    refine ⟨((KeepsOthers.drew W).trans (KeepsOthers.setCell _ _ _)).from _, (Below.refl _ W).drew.setCell (p := ⟨w.heap.size + 1, 0, none⟩) (by show w.heap.size ≤ w.heap.size + 1; omega) _, ⟨HasBlk.far (show HasBlk W.drew _ _ _ from H1.out) (show w.heap.size ≠ w.heap.size + 1 by omega) _, ?_⟩, HB.out.drew.setCell (p := ⟨w.heap.size + 1, 0, none⟩) (by show w.heap.size ≤ w.heap.size + 1; omega) _⟩
    rw [HSM.out]
    exact Boxed.set _ (show Boxed W.drew _ _ _ from H3.out)
  case done =>
    rintro E ys W hE hys ⟨⟨h1, h3⟩, hB⟩ hK
    rw [hys, HMEM.out, ← HR.out] at h3
    have r0 := (blk_cell h3 0).trans (cell1_0 _)
    have HB := Lib.hid hB
    have HK2 := Lib.hid hK
    have HEs : Hid (w.heap.size ≤ E) := Lib.hid (by have := HS3.out; have := HS4.out; omega)
    clear h1 h3 hB hK hys
    gi_wp2
    refine ⟨by simp, .inl ⟨_, _, rfl, run_takeDeferred HK2.out, ?_⟩⟩
    exact ⟨.int .i64 ((sumK zs p : Nat) : Int), by simp [results, Tryd.results66, go_sem], rfl, HB.out.trans (belowK_b (w := w) (Nat.le_refl _) W E _ _ HEs.out HK2.out rfl rfl)⟩
  case stop =>
    rintro E c' pre W hE hp h hK
    exact h.elim

set_option maxRecDepth 100000 in
set_option maxHeartbeats 1600000 in
theorem l9Sum_any (a : Option Addr) (c : Nat) (zs : List Int) (p : Nat) (w : World) (ha : Ints w w.heap.size a zs) (hx : zs.length ≤ 8) (hz : ∀ z ∈ zs, 0 ≤ z ∧ z.toNat < 64) (hp : p < 256) :
    Calls Tryd.prog 68 #[.slice a zs.length c, .int .i64 (p : Int)] w fun e w' => e = .returned (.int .i64 ((sumK zs p : Nat) : Int)) ∧ w = w' := by
  obtain ⟨n, hn⟩ : ∃ n, n = zs.length := ⟨_, rfl⟩
  have HN := Lib.hid hn
  have HA := Lib.hid ha
  have HZ := Lib.hid hz
  have HT : Hid (sumK zs p = xorU zs 0 (memK n p)) := Lib.hid (by unfold sumK; rw [hn])
  rw [← hn] at hx ⊢
  clear ha hz hn
  go_enter Tryd.func68, Tryd.ntmps68
  go_wp2
  go_loop [5, 6] (fun s i => ∃ k S : Nat, k ≤ n ∧ i = .int .i64 (k : Int) ∧ s = .int .i64 (S : Int) ∧ S = xorU zs 0 (memK k p)) (fun _ i => n - (intOf i).toNat)
  case atStart => exact ⟨0, 0, Nat.zero_le _, rfl, rfl, rfl⟩
  case round =>
    obtain ⟨k, S, hk, rfl, rfl, hS⟩ := hrel
    have hS64 : S < 64 := by rw [hS]; exact xorU_lt (fun z h => (HZ.out z h).2) _ 0 (by decide)
    have HS := Lib.hid hS
    clear hS
    by_cases hlt : k < n
    · have hms := memK_succ k p
      have hk0 : (0 : Int) ≤ (k : Int) := by omega
      have hk64 : (k : Int) < 64 := by omega
      have hkI : (k : Int) < (n : Int) := by omega
      have hbv := bitW_val (s := p) (v := k) hp (by omega)
      cases htb : p.testBit k
      · rw [htb] at hbv hms
        simp only [Bool.false_eq_true, if_false, List.append_nil] at hbv hms
        have HE : Hid (S = xorU zs 0 (memK (k + 1) p)) := Lib.hid (by rw [hms]; exact HS.out)
        clear htb hms
        go_wp2
        go_round
        case rel => exact ⟨k + 1, S, by omega, by go_num, rfl, HE.out⟩
        case measure => simp [intOf]; omega
      · rw [htb] at hbv hms
        simp only [if_true] at hbv hms
        obtain ⟨b1, o1, rfl, hb1, hc1⟩ := HA.out.at_ (k := k) (by rw [← HN.out]; exact hlt)
        obtain ⟨z0, z1⟩ := HZ.out _ (at_in (k := k) (by rw [← HN.out]; exact hlt))
        obtain ⟨z, hzz⟩ : ∃ z : Nat, zs[k]?.getD 0 = (z : Int) := ⟨(zs[k]?.getD 0).toNat, by omega⟩
        rw [hzz, Int.toNat_natCast] at z1
        rw [hzz] at hc1
        have HE : Hid (S ^^^ z = xorU zs 0 (memK (k + 1) p)) := Lib.hid (by rw [hms, xorU_snoc, ← HS.out, hzz, Int.toNat_natCast])
        have hor := xor6_at S z hS64 z1
        clear htb hms z0 hzz
        go_wp2
        go_round
        case rel => exact ⟨k + 1, S ^^^ z, by omega, by go_num, rfl, HE.out⟩
        case measure => simp [intOf]; omega
    · obtain rfl : k = n := by omega
      have HE : Hid (sumK zs p = S) := Lib.hid (by rw [HT.out]; exact HS.out.symm)
      go_wp2
      go_ret
      exact ⟨by rw [HE.out]; rfl, rfl⟩

end Go.Proofs.YtdkdndcogdeopaaDoor
