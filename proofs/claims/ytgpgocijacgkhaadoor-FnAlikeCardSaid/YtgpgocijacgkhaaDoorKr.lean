/- It is proved what packed returns; conditions: those of each statement. -/
import Derived.RowKit
import Derived.Laws.CopyRow
import Derived.Lib.SlBuf
import Derived.Deep.QuietTactic
import Derived.RangeFuncNested
import Derived.RangeFuncBound
import Derived.RangeFuncCalls
import Derived.RangeFuncLeaves
import Derived.RangeFuncBox
import Derived.RangeFuncWrites
import Derived.StillTailTactics
import Derived.Maps.OwnIn
import Derived.Maps.Ext
import Derived.DeepKeys4
import Derived.MapKept
import Derived.Test.YtgpgocijacgkhaaDoorRows
import Derived.WalkKit
import Derived.WalkSpells
import Derived.ProofKit
import Derived.OpenShut
import Derived.ShutString
import Derived.ChangeOld
import Derived.Below
import Derived.Deep.RegionHeld3
import Derived.BigQuiet
import Derived.Lib.Hide
import Derived.Lib.SmallJoins
import Derived.Outline
import Derived.Laws.MakeOwn
import Derived.Laws.OwnMore
import Derived.IntWalk
import Derived.Lib.AppendZeros
import Derived.Maps.AppendAt
import Derived.Deep.AppendLies
import Derived.OwnWalk
import Derived.Lib.SlicesCompact
import Derived.Lib.OwnBridge
import Derived.OrdersIn
import Derived.TacticsIn
import Derived.Shelf.Sort.Plain
import Derived.Shelf.Slices.In.SortNone
import Derived.Shelf.Slices.CompactI
import Derived.Ground.Names2Prog
import Derived.Lib.SliceRun
import Derived.Shelf.Abstract
import Derived.Shelf.RegionOpen
import Derived.OwnWalkIn
import Derived.TacticsInMore
import Derived.LoopNIn
import Derived.LoopIn
import Derived.StillTail
import Derived.StillTactics
import Derived.Shelf.Spec.TrailingZeros
import Derived.Test.YtgpgocijacgkhaaDoorRaaa
import Derived.Test.YtgpgocijacgkhaaDoorRaab
import Derived.Test.YtgpgocijacgkhaaDoorRaah
import Derived.Test.YtgpgocijacgkhaaDoorRaau
import Derived.Test.YtgpgocijacgkhaaDoorRaan
import Derived.Test.YtgpgocijacgkhaaDoorRaap
import Derived.Test.YtgpgocijacgkhaaDoorRaas
import Derived.Test.YtgpgocijacgkhaaDoorRaac
namespace Go.Proofs.YtgpgocijacgkhaaDoor
open Go.RowKit Go.Shelf

attribute [local go_sem] Oper.semAt_some

/-- The members of clubs at some places, and some more. -/
def metU (zs : List Int) (t : Nat) (ps : List Nat) : Nat := ps.foldl (fun t p => t ||| (zs[p]?.getD 0).toNat) t

theorem metU_snoc (zs : List Int) (t : Nat) (ps : List Nat) (p : Nat) : metU zs t (ps ++ [p]) = metU zs t ps ||| (zs[p]?.getD 0).toNat := by simp [metU]
theorem packB_snoc (zs : List Int) : ∀ (ps : List Nat) (p t : Nat), packB zs (ps ++ [p]) t = (packB zs ps t && decide ((zs[p]?.getD 0).toNat &&& metU zs t ps = 0))
  | [], p, t => by simp [packB, metU]; rfl
  | q :: ps, p, t => by
    rw [List.cons_append, packB, packB, packB_snoc zs ps p]
    simp only [metU, List.foldl_cons, Bool.and_assoc]
    rfl

theorem packB_prefix {zs : List Int} : ∀ {ps qs : List Nat} {t : Nat}, ps <+: qs → packB zs ps t = false → packB zs qs t = false
  | [], _, _, _, h => by cases h
  | p :: ps, qs, t, hp, h => by
    obtain ⟨r, rfl⟩ := hp
    rw [List.cons_append, packB] at *
    cases hd : decide ((zs[p]?.getD 0).toNat &&& t = 0)
    · rfl
    · rw [hd] at h
      rw [Bool.true_and] at h ⊢
      exact packB_prefix (List.prefix_append ps r) h

theorem metU_lt {zs : List Int} (hz : ∀ z ∈ zs, z.toNat < 64) : ∀ (ps : List Nat) (t : Nat), t < 64 → metU zs t ps < 64
  | [], t, h => h
  | p :: ps, t, h => by
    rw [metU, List.foldl_cons]
    refine metU_lt hz ps _ (Nat.or_lt_two_pow (n := 6) h ?_)
    by_cases hp : p < zs.length
    · rw [List.getElem?_eq_getElem hp]; exact hz _ (List.getElem_mem _)
    · rw [List.getElem?_eq_none (by omega)]; decide

set_option maxRecDepth 100000 in
set_option maxHeartbeats 4000000 in
theorem packed_any (m : Nat) (hm : m ≤ 6) (a : Option Addr) (c : Nat) (zs : List Int) (p : Nat) (w : World) (ha : Ints w w.heap.size a zs) (h8 : zs.length ≤ 8) (hz : Sets m zs) (hp : p < 2 ^ zs.length) (hT : Tab w) :
    Calls Tryd.prog 76 #[.agg #[.int .i64 (m : Int), .slice a zs.length c], .int .i64 (p : Int)] w fun e w' => e = .returned (.bool (packB zs (memK zs.length p) 0)) ∧ Below w.heap.size w w' := by
  have hp256 : p < 256 := by have := Nat.pow_le_pow_right (n := 2) (by decide) h8; omega
  have hz64 : ∀ z ∈ zs, z.toNat < 64 := fun z h => p64 hm (hz z h).2
  have hT1 := hT.lt
  obtain ⟨n, hn⟩ : ∃ n, n = zs.length := ⟨_, rfl⟩
  have hmem : memK 8 p = memK n p := memW_is (by omega) (by rw [hn]; exact hp)
  have h16 : 1 ≤ 6 := by omega
  obtain ⟨W3, hW3, q0, q1, q2, hs3, hb3⟩ : ∃ W3, ((w.alloc (.cells #[.int .i64 (m : Int), .slice a zs.length c] 25)).alloc (.cells #[.bool false] 4)).alloc (.cells #[.int .i64 0] 54) = W3 ∧ HasBlk W3 w.heap.size #[.int .i64 (m : Int), .slice a zs.length c] 25 ∧ HasBlk W3 (w.heap.size + 1) #[.bool false] 4 ∧ HasBlk W3 (w.heap.size + 1 + 1) #[.int .i64 0] 54 ∧ W3.heap.size = w.heap.size + 1 + 1 + 1 ∧ Below w.heap.size w W3 :=
    ⟨_, rfl, alloc3_0 w _ _ _, alloc3_1 w _ _ _, alloc3_2 w _ _ _, by simp, below3 w _ _ _⟩
  obtain ⟨W4, hW4, r3, hs4, hb4⟩ : ∃ W4, W3.alloc (.cells #[.int .i64 (p : Int)] 54) = W4 ∧ HasBlk W4 (w.heap.size + 1 + 1 + 1) #[.int .i64 (p : Int)] 54 ∧ W4.heap.size = W3.heap.size + 1 ∧ Below W3.heap.size W3 W4 :=
    ⟨_, rfl, by have := alloc_new W3 (.cells #[.int .i64 (p : Int)] 54); rwa [hs3] at this, by simp, below1 W3 _⟩
  have hb04 := hb3.trans (hb4.mono (show w.heap.size ≤ W3.heap.size by omega))
  have HQ0 : Hid (HasBlk W4 w.heap.size #[.int .i64 (m : Int), .slice a zs.length c] 25) := Lib.hid ((hb4.block _ (by omega)).trans q0)
  have HQ1 : Hid (HasBlk W4 (w.heap.size + 1) #[.bool false] 4) := Lib.hid ((hb4.block _ (by omega)).trans q1)
  have HQ2 : Hid (HasBlk W4 (w.heap.size + 1 + 1) #[.int .i64 0] 54) := Lib.hid ((hb4.block _ (by omega)).trans q2)
  have hst := membersW_stops (6 - 1) (by omega) (w.heap.size + 1 + 1 + 1) w.heap.size p hp256 W4 (by omega) (by omega) (by omega) ((blk_cell r3 0).trans (cell1_0 _)) (hT.below hb04 hT1)
  have HST := Lib.hid hst
  have HB4 := Lib.hid hb04
  have HI := Lib.hid (ha.below hb04)
  have HW3 := Lib.hid hW3
  have HW4 := Lib.hid hW4
  have HS3 := Lib.hid hs3
  have HS4 := Lib.hid hs4
  have HMEM := Lib.hid hmem
  have HN := Lib.hid hn
  have HZ := Lib.hid hz
  have HZ64 := Lib.hid hz64
  rw [← hn] at HQ0 ⊢
  clear ha q0 q1 q2 r3 hb3 hb4 hb04 hst hW3 hW4 hs3 hs4 hmem hT hz hz64 hn hp
  refine (callsIn_wide (n := 6)).1 ?_
  refine callsIn_of_wp_marks Tryd.func76 rfl trivial ?_ rfl
  simp only [Tryd.ntmps76, List.size_toArray, List.length_cons, List.length_nil, Nat.reduceAdd, Nat.reduceSub, Array.replicate_succ, Array.replicate_zero, List.push_toArray, List.append_toArray, List.nil_append, List.cons_append]
  gi_wp2_with (refine ⟨trivial, ?_⟩; gi_at_call 46; refine (callsIn_wide.2 (members_any _ _)).mono ?_; rintro e w' ⟨rfl, rfl⟩)
  rw [HN.out, HW3.out, HW4.out]
  rw [← HN.out]
  refine wpIn_rangeFunc_ownG rfl h16 (gf := 78) (lb := #[.pointer (some ⟨w.heap.size + 1 + 1 + 1, 0, none⟩)]) rfl trivial (enters_of Tryd.func78 (by kernel_rfl) rfl)
    HST.out belowK_t (belowK_b (by have := HS3.out; have := HS4.out; omega)) (Below.refl _ _) (fun _ => rfl)
    (fun pre W => (packB zs (valsW pre) 0 = true ∧ HasBlk W w.heap.size #[.int .i64 (m : Int), .slice a n c] 25 ∧ HasBlk W (w.heap.size + 1) #[.bool false] 4 ∧ HasBlk W (w.heap.size + 1 + 1) #[.int .i64 ((metU zs 0 (valsW pre) : Nat) : Int)] 54) ∧ Below w.heap.size w W)
    (fun c' pre W => (c' = .ret ∧ packB zs (valsW pre) 0 = false ∧ HasBlk W (w.heap.size + 1) #[.bool false] 4) ∧ Below w.heap.size w W)
    ?own ?ownx
    ⟨⟨rfl, HQ0.out, HQ1.out, HQ2.out⟩, HB4.out⟩
    (fun x => { tmps := #[.agg #[.int .i64 (m : Int), .slice a n c], .int .i64 (p : Int), .pointer (some ⟨w.heap.size, 0, none⟩), undef, .pointer (some ⟨w.heap.size + 1, 0, none⟩), .pointer (some ⟨w.heap.size + 1 + 1, 0, none⟩), .int .i64 (x.1 : Int), undef, .int .i64 (p : Int), .func (.func 78) #[] #[.pointer (some ⟨w.heap.size + 1 + 1 + 1, 0, none⟩)], .int .i64 (x.1 : Int), undef, undef, undef, undef, undef, undef, undef, undef, undef, undef, undef], defers := [] }) ?assign ?body ?done ?stop
  case own =>
    rintro s A B row ⟨⟨h1, h2, h3, h4⟩, h5⟩ hg hr
    have hr' : ∀ (b : Nat) (cs : Array Value) (t : TypeId), HasBlk A b cs t → row ≠ some b := fun b cs t hb e => by
      obtain ⟨-, o, ho, hc⟩ := hr b e
      rw [show A.heap[b]? = _ from hb] at ho; cases ho; cases hc
    exact ⟨⟨h1, h2.kept hg (hr' _ _ _ h2), h3.kept hg (hr' _ _ _ h3), h4.kept hg (hr' _ _ _ h4)⟩, h5.grown hg (by have := h5.size; omega) (fun r e => by have := (hr r e).1; have := HS3.out; have := HS4.out; omega)⟩
  case ownx =>
    rintro c' s A B row ⟨⟨h1, h2, h3⟩, h5⟩ hg hr
    have hr' : ∀ (b : Nat) (cs : Array Value) (t : TypeId), HasBlk A b cs t → row ≠ some b := fun b cs t hb e => by
      obtain ⟨-, o, ho, hc⟩ := hr b e
      rw [show A.heap[b]? = _ from hb] at ho; cases ho; cases hc
    exact ⟨⟨h1, h2, h3.kept hg (hr' _ _ _ h3)⟩, h5.grown hg (by have := h5.size; omega) (fun r e => by have := (hr r e).1; have := HS3.out; have := HS4.out; omega)⟩
  case assign =>
    intro l x W K hK
    gi_wp2
    exact hK
  case body =>
    rintro l pre ⟨x, hxm⟩ W ⟨⟨hpk, h1, h2, h3⟩, hB⟩ hlt
    obtain ⟨xx, hxx⟩ : ∃ xx : MemW p, xx = ⟨x, hxm⟩ := ⟨_, rfl⟩
    have hxn : x < n := by rw [HMEM.out] at hxm; exact memK_lt hxm
    obtain ⟨b1, o1, rfl, hb1, hc1⟩ := HI.out.at_ (k := x) (by rw [← HN.out]; exact hxn)
    have hin := at_in (xs := zs) (k := x) (by rw [← HN.out]; exact hxn)
    obtain ⟨z, hzz⟩ : ∃ z : Nat, zs[x]?.getD 0 = (z : Int) := ⟨(zs[x]?.getD 0).toNat, by have := (HZ.out _ hin).1; omega⟩
    have hz6 := HZ64.out _ hin
    rw [hzz, Int.toNat_natCast] at hz6
    rw [hzz] at hc1
    have hM := metU_lt HZ64.out (valsW pre) 0 (by decide)
    have HSP : Hid (packB zs (valsW (pre ++ [xx])) 0 = decide (z &&& metU zs 0 (valsW pre) = 0)) := Lib.hid (by
      rw [valsW_snoc, hxx, packB_snoc, hpk, hzz, Int.toNat_natCast, Bool.true_and])
    have HSM : Hid (metU zs 0 (valsW (pre ++ [xx])) = metU zs 0 (valsW pre) ||| z) := Lib.hid (by
      rw [valsW_snoc, hxx, metU_snoc, hzz, Int.toNat_natCast])
    obtain ⟨M, hMM⟩ : ∃ M, M = metU zs 0 (valsW pre) := ⟨_, rfl⟩
    rw [← hMM] at hM HSP HSM h3
    have x1 := (blk_cell h1 1).trans (cell2_1 _ _)
    have c1 := (hB.cell (p := ⟨b1, o1 + x, none⟩) hb1).trans ((HB4.out.cell (p := ⟨b1, o1 + x, none⟩) hb1).symm.trans hc1)
    have m0 := (blk_cell h3 0).trans (cell1_0 _)
    have m1 := blk_frozen h3 0
    have r0 := (blk_cell h2 0).trans (cell1_0 _)
    have r1 := blk_frozen h2 0
    have H1 := Lib.hid h1
    have H2 := Lib.hid h2
    have H3 := Lib.hid h3
    have HB := Lib.hid hB
    have hxI : (x : Int) < (n : Int) := by omega
    have HMT := Lib.hid (meets_any z M hz6 hM W)
    have HOR := or6_at M z hM hz6
    dsimp only
    rw [← hxx]
    clear h1 h2 h3 hB hxm hxx hin hzz hpk hc1 hMM
    by_cases h0 : z &&& M = 0
    · have HP2 : Hid (packB zs (valsW (pre ++ [xx])) 0 = true) := Lib.hid (by rw [HSP.out, decide_eq_true h0])
      have HE : Hid ((!decide (z &&& M = 0)) = false) := Lib.hid (by rw [decide_eq_true h0]; rfl)
      clear h0
      gi_wp2_with (refine ⟨trivial, ?_⟩; gi_at_call 82; refine (CallsIn.inRound l (callsIn_wide.2 HMT.out)).mono ?_; rintro e w' ⟨rfl, rfl⟩; rw [HE.out])
      exact ⟨(KeepsOthers.setCell _ _ _).from _, (Below.refl _ _).setCell (p := ⟨w.heap.size + 1 + 1, 0, none⟩) (by show w.heap.size ≤ w.heap.size + 1 + 1; omega) _, ⟨HP2.out, HasBlk.far H1.out (show w.heap.size ≠ w.heap.size + 1 + 1 by omega) _, HasBlk.far H2.out (show w.heap.size + 1 ≠ w.heap.size + 1 + 1 by omega) _, by rw [HSM.out]; exact Boxed.set _ H3.out⟩, HB.out.setCell (p := ⟨w.heap.size + 1 + 1, 0, none⟩) (by show w.heap.size ≤ w.heap.size + 1 + 1; omega) _⟩
    · have HP2 : Hid (packB zs (valsW (pre ++ [xx])) 0 = false) := Lib.hid (by rw [HSP.out, decide_eq_false h0])
      have HE : Hid ((!decide (z &&& M = 0)) = true) := Lib.hid (by rw [decide_eq_false h0]; rfl)
      clear h0
      gi_wp2_with (refine ⟨trivial, ?_⟩; gi_at_call 82; refine (CallsIn.inRound l (callsIn_wide.2 HMT.out)).mono ?_; rintro e w' ⟨rfl, rfl⟩; rw [HE.out])
      exact ⟨(KeepsOthers.setCell _ _ _).from _, ⟨rfl, HP2.out, Boxed.set _ H2.out⟩, HB.out.setCell (p := ⟨w.heap.size + 1, 0, none⟩) (by show w.heap.size ≤ w.heap.size + 1; omega) _⟩
  case done =>
    rintro E ys W hE hys ⟨⟨hpk, h1, h2, h3⟩, hB⟩ hK
    rw [hys, HMEM.out] at hpk
    have r0 := (blk_cell h2 0).trans (cell1_0 _)
    have r1 := blk_frozen h2 0
    have HP := Lib.hid hpk
    have hK2 := (KeepsOthers.setCell W ⟨w.heap.size + 1, 0, none⟩ (.bool true)).same E _ hK rfl
    have hne : w.heap.size + 1 ≠ E := fun e => by subst e; rw [show W.heap[w.heap.size + 1]? = _ from h2] at hK; cases hK
    have hb2 : HasBlk ((W.setCell ⟨w.heap.size + 1, 0, none⟩ (.bool true)).putObj E (.deferred none)) (w.heap.size + 1) #[.bool true] 4 := (World.putObj_heap_other (by first | exact hne | exact Ne.symm hne)).trans (Boxed.set _ h2)
    have g0 := (blk_cell hb2 0).trans (cell1_0 _)
    have HB := Lib.hid (hB.setCell (p := ⟨w.heap.size + 1, 0, none⟩) (by show w.heap.size ≤ w.heap.size + 1; omega) (.bool true))
    have HK2 := Lib.hid hK2
    have HEs : Hid (w.heap.size ≤ E) := Lib.hid (by have := HS3.out; have := HS4.out; omega)
    clear hpk h1 h2 h3 hB hK hK2 hb2 hys
    gi_wp2
    refine ⟨by simp, .inl ⟨_, _, rfl, run_takeDeferred HK2.out, ?_⟩⟩
    exact ⟨.bool true, by simp [results, Tryd.f76, go_sem, g0], by rw [HP.out], HB.out.trans (belowK_b (w := w) (Nat.le_refl _) _ E _ _ HEs.out HK2.out rfl rfl)⟩
  case stop =>
    rintro E c' pre W hE hp ⟨⟨rfl, hpk, h2⟩, hB⟩ hK
    rw [HMEM.out] at hp
    have HP : Hid (packB zs (memK n p) 0 = false) := Lib.hid (packB_prefix hp hpk)
    have hne : w.heap.size + 1 ≠ E := fun e => by subst e; rw [show W.heap[w.heap.size + 1]? = _ from h2] at hK; cases hK
    have hb2 : HasBlk (W.putObj E (.deferred none)) (w.heap.size + 1) #[.bool false] 4 := (World.putObj_heap_other (by first | exact hne | exact Ne.symm hne)).trans h2
    have g0 := (blk_cell hb2 0).trans (cell1_0 _)
    have HB := Lib.hid hB
    have HK2 := Lib.hid hK
    have HEs : Hid (w.heap.size ≤ E) := Lib.hid (by have := HS3.out; have := HS4.out; omega)
    clear hpk h2 hB hK hb2 hp
    gi_wp2
    refine ⟨by simp, .inl ⟨_, _, rfl, run_takeDeferred HK2.out, ?_⟩⟩
    exact ⟨.bool false, by simp [results, Tryd.f76, go_sem, g0], by rw [HP.out], HB.out.trans (belowK_b (w := w) (Nat.le_refl _) _ E _ _ HEs.out HK2.out rfl rfl)⟩

end Go.Proofs.YtgpgocijacgkhaaDoor
