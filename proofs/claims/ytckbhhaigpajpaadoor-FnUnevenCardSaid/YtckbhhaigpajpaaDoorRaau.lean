/- It is proved how uneven two colours are for the clubs of a family, of the program; conditions: those of each statement. -/
import Derived.RowKit
import Derived.Laws.CopyRow
import Derived.Lib.SlBuf
import Derived.Deep.QuietTactic
import Derived.RangeFuncNested
import Derived.RangeFuncBound
import Derived.RangeFuncCalls
import Derived.RangeFuncLeaves
import Derived.RangeFuncBox
import Derived.RangeFuncWrites
import Derived.StillTailTactics
import Derived.Maps.OwnIn
import Derived.Maps.Ext
import Derived.DeepKeys4
import Derived.MapKept
import Derived.Test.YtckbhhaigpajpaaDoorRows
import Derived.WalkKit
import Derived.WalkSpells
import Derived.ProofKit
import Derived.OpenShut
import Derived.ShutString
import Derived.ChangeOld
import Derived.Below
import Derived.Deep.RegionHeld3
import Derived.BigQuiet
import Derived.Lib.Hide
import Derived.Lib.SmallJoins
import Derived.Outline
import Derived.Laws.MakeOwn
import Derived.Laws.OwnMore
import Derived.IntWalk
import Derived.Maps.AppendAt
import Derived.Deep.RegionLaw
import Derived.Deep.AppendLies
import Derived.Lib.AppendZeros
import Derived.OwnWalk
import Derived.Lib.SlicesCompact
import Derived.Lib.OwnBridge
import Derived.OrdersIn
import Derived.TacticsIn
import Derived.Shelf.Sort.Plain
import Derived.Shelf.Slices.In.SortNone
import Derived.Shelf.Slices.CompactI
import Derived.Ground.Names2Prog
import Derived.Lib.SliceRun
import Derived.Shelf.Abstract
import Derived.Shelf.RegionOpen
import Derived.OwnWalkIn
import Derived.TacticsInMore
import Derived.LoopNIn
import Derived.LoopIn
import Derived.StillTail
import Derived.StillTactics
import Derived.Shelf.Spec.TrailingZeros
import Derived.Deep.LoopGhost
import Derived.Test.YtckbhhaigpajpaaDoorRaas
import Derived.Test.YtckbhhaigpajpaaDoorRaaa
import Derived.Test.YtckbhhaigpajpaaDoorRaab
import Derived.Test.YtckbhhaigpajpaaDoorJl
import Derived.Test.YtckbhhaigpajpaaDoorRaad
import Derived.Test.YtckbhhaigpajpaaDoorRaaf
import Derived.Test.YtckbhhaigpajpaaDoorRaaq
import Derived.Test.YtckbhhaigpajpaaDoorLz
import Derived.Test.YtckbhhaigpajpaaDoorRaae
import Derived.Test.YtckbhhaigpajpaaDoorRaar
namespace Go.Proofs.YtckbhhaigpajpaaDoor
open Go.RowKit Go.Shelf

attribute [local go_sem] Oper.semAt_some

theorem max3_run (ats : Array TypeId) (ty : TypeId) (x y z : Int) : Builtin.max_ ats ty #[.int .i64 x, .int .i64 y, .int .i64 z] = pure (.int .i64 (max x (max y z))) := by
  show (pure (Value.int .i64 (if z > (if y > x then y else x) then z else (if y > x then y else x))) : Sem Value) = _
  congr 2
  split <;> split at * <;> omega

attribute [local go_sem ↓] max3_run

theorem snoc_ind {α : Type} {motive : List α → Prop} (h0 : motive []) (h1 : ∀ l x, motive l → motive (l ++ [x])) (l : List α) : motive l := by
  rw [← List.reverse_reverse l]
  induction l.reverse with
  | nil => exact h0
  | cons x t ih => rw [List.reverse_cons]; exact h1 _ _ ih

/-- How many more members of a club have one colour than the other one. -/
def morI (cs : List Bool) (z : Int) : Int := ((cntV cs true (mem z.toNat) : Nat) : Int) - ((cntV cs false (mem z.toNat) : Nat) : Int)

/-- The greatest of these numbers, of either colour. -/
def unvI (cs : List Bool) (zs : List Int) : Int := zs.foldl (fun b z => max (max b (morI cs z)) (-(morI cs z))) 0

theorem unvI_snoc (cs : List Bool) (zs : List Int) (z : Int) : unvI cs (zs ++ [z]) = max (max (unvI cs zs) (morI cs z)) (-(morI cs z)) := by simp [unvI]
theorem mem_le6 {z : Nat} (h : z < 64) : (mem z).length ≤ 6 := by
  rw [← mem8 h]
  have : ∀ z : Fin 64, (memK 8 z.val).length ≤ 6 := by decide +kernel
  exact this ⟨z, h⟩

theorem morI_bound {cs : List Bool} {z : Int} (h : z.toNat < 64) : -6 ≤ morI cs z ∧ morI cs z ≤ 6 := by
  have h1 := cntV_le cs true (mem z.toNat)
  have h2 := cntV_le cs false (mem z.toNat)
  have h3 := mem_le6 h
  unfold morI
  omega

theorem unvI_bound {cs : List Bool} : ∀ {zs : List Int}, (∀ z ∈ zs, z.toNat < 64) → 0 ≤ unvI cs zs ∧ unvI cs zs ≤ 6 := by
  intro zs
  induction zs using snoc_ind with
  | h0 => intro _; simp [unvI]
  | h1 l z ih =>
    intro h
    have h1 := ih (fun y hy => h y (by simp [hy]))
    have h2 := morI_bound (cs := cs) (h z (by simp))
    rw [unvI_snoc]
    omega

set_option maxRecDepth 100000 in
set_option maxHeartbeats 8000000 in
theorem uneven_any (k : Nat) (hk6 : k ≤ 6) (m : Int) (a : Option Addr) (c : Nat) (zs : List Int) (la : Option Addr) (lc : Nat) (cs : List Bool) (hcs : cs.length = k) (w : World) (ha : Ints w w.heap.size a zs) (hx : zs.length ≤ 1048576) (hz : Sets k zs) (hl : Bools w w.heap.size la cs) (hT : Tab w) :
    Calls Tryd.prog 45 #[.agg #[.int .i64 m, .slice a zs.length c], .slice la k lc] w fun e w' => e = .returned (.int .i64 (unvI cs zs)) ∧ Below w.heap.size w w' := by
  have h16 : 1 ≤ 6 := by omega
  have hT1 := hT.lt
  have hmx : Tryd.prog.follows .mixedOrders = true := by kernel_rfl
  obtain ⟨W2, hW2, q0, q1, q2, hs2, hb2⟩ : ∃ W2, ((w.alloc (.cells #[.int .i64 m, .slice a zs.length c] 25)).alloc (.cells #[.slice la k lc] 55)).alloc (.cells #[.int .i64 0] 3) = W2 ∧ HasBlk W2 w.heap.size #[.int .i64 m, .slice a zs.length c] 25 ∧ HasBlk W2 (w.heap.size + 1) #[.slice la k lc] 55 ∧ HasBlk W2 (w.heap.size + 1 + 1) #[.int .i64 0] 3 ∧ W2.heap.size = w.heap.size + 1 + 1 + 1 ∧ Below w.heap.size w W2 :=
    ⟨_, rfl, alloc3_0 w _ _ _, alloc3_1 w _ _ _, alloc3_2 w _ _ _, by simp, below3 w _ _ _⟩
  obtain ⟨W3, hW3, q3, hs3, hb3⟩ : ∃ W3, W2.alloc (.cells #[.int .i64 m, .slice a zs.length c] 25) = W3 ∧ HasBlk W3 (w.heap.size + 1 + 1 + 1) #[.int .i64 m, .slice a zs.length c] 25 ∧ W3.heap.size = W2.heap.size + 1 ∧ Below W2.heap.size W2 W3 :=
    ⟨_, rfl, by have := alloc_new W2 (.cells #[.int .i64 m, .slice a zs.length c] 25); rwa [hs2] at this, by simp, below1 W2 _⟩
  have hb03 := hb2.trans (hb3.mono (show w.heap.size ≤ W2.heap.size by omega))
  have hst := clubsP_stops (IsSet k) (6 - 1) (by omega) (w.heap.size + 1 + 1 + 1) w.heap.size a c zs hx hz.at_ W3 (by omega) (by omega) ((blk_cell q3 1).trans (cell2_1 _ _)) (ha.below hb03)
  have HST := Lib.hid hst
  have HQ1 : Hid (HasBlk W3 (w.heap.size + 1) #[.slice la k lc] 55) := Lib.hid ((hb3.block _ (by omega)).trans q1)
  have HQ2 : Hid (HasBlk W3 (w.heap.size + 1 + 1) #[.int .i64 (unvI cs (sndL ([] : List { p // IsSet k p })))] 3) := Lib.hid ((hb3.block _ (by omega)).trans q2)
  have y0 := (blk_cell q0 0).trans (cell2_0 _ _)
  have y1 := (blk_cell q0 1).trans (cell2_1 _ _)
  rw [← hW2] at y0 y1
  have HB3 := Lib.hid hb03
  have HCT : Hid (∀ (b : Bool) (z : Nat) V, z < 2 ^ k → Below w.heap.size w V → Calls Tryd.prog 83 #[.slice la k lc, .int .i64 (z : Int), .bool b] V fun e w' => e = .returned (.int .i64 ((cntV cs b (mem z) : Nat) : Int)) ∧ Below V.heap.size V w') := Lib.hid (fun b z V hz2 hV => countB_any la k lc cs z b hcs hk6 hz2 V ((hl.below hV).mono hV.size) (hT.below hV hT1))
  have HW2 := Lib.hid hW2
  have HW3 := Lib.hid hW3
  have HS2 := Lib.hid hs2
  have HS3 := Lib.hid hs3
  have HZ64 : Hid (∀ l : List { p // IsSet k p }, ∀ z ∈ sndL l, z.toNat < 64) := Lib.hid (fun l z hz' => by
    obtain ⟨y, -, rfl⟩ := List.mem_map.1 hz'
    exact p64 hk6 y.2.2)
  clear ha q0 q1 q2 q3 hb2 hb3 hb03 hst hW2 hW3 hs2 hs3 hT hz hl hcs
  refine (callsIn_wide (n := 6)).1 ?_
  refine callsIn_of_wp_marks Tryd.func45 rfl trivial ?_ rfl
  simp only [Tryd.ntmps45, List.size_toArray, List.length_cons, List.length_nil, Nat.reduceAdd, Nat.reduceSub, Array.replicate_succ, Array.replicate_zero, List.push_toArray, List.append_toArray, List.nil_append, List.cons_append]
  gi_wp2_with (refine ⟨trivial, ?_⟩; gi_at_call 50; refine (callsIn_wide.2 (clubs_any _ _ _ _ _)).mono ?_; rintro e w' ⟨rfl, rfl⟩)
  rw [HW2.out, HW3.out]
  clear y0 y1
  refine wpIn_rangeFunc_ownG rfl h16 (gf := 86) (lb := #[.pointer (some ⟨w.heap.size + 1 + 1 + 1, 0, none⟩)]) rfl trivial (enters_of Tryd.func86 (by kernel_rfl) rfl)
    HST.out belowK_t (belowK_b (by have := HS3.out; have := HS2.out; omega)) (Below.refl _ _) (fun _ => rfl)
    (fun pre W => (HasBlk W (w.heap.size + 1) #[.slice la k lc] 55 ∧ HasBlk W (w.heap.size + 1 + 1) #[.int .i64 (unvI cs (sndL pre))] 3) ∧ Below w.heap.size w W)
    (fun _ _ _ => False)
    ?own
    (fun _ _ _ _ _ hs _ _ => hs)
    ⟨⟨HQ1.out, HQ2.out⟩, HB3.out⟩
    (fun x => { tmps := #[.agg #[.int .i64 m, .slice a zs.length c], .slice la k lc, .pointer (some ⟨w.heap.size, 0, none⟩), .pointer (some ⟨w.heap.size + 1, 0, none⟩), .int .i64 0, .pointer (some ⟨w.heap.size + 1 + 1, 0, none⟩), undef, .int .i64 x.1.2, undef, .agg #[.int .i64 m, .slice a zs.length c], .func (.func 86) #[] #[.pointer (some ⟨w.heap.size + 1 + 1 + 1, 0, none⟩)], .int .i64 (x.1.1 : Int), .int .i64 x.1.2, undef, undef, undef, undef, undef, undef, undef, undef, undef, undef, undef, undef, undef], defers := [] }) ?assign ?body ?done ?stop
  case own =>
    rintro s A B row ⟨⟨h2, h3⟩, h5⟩ hg hr
    have hr' : ∀ (b : Nat) (cs : Array Value) (t : TypeId), HasBlk A b cs t → row ≠ some b := fun b cs t hb e => by
      obtain ⟨-, o, ho, hc⟩ := hr b e
      rw [show A.heap[b]? = _ from hb] at ho; cases ho; cases hc
    exact ⟨⟨h2.kept hg (hr' _ _ _ h2), h3.kept hg (hr' _ _ _ h3)⟩, h5.grown hg (by have := h5.size; omega) (fun r e => by have := (hr r e).1; have := HS3.out; have := HS2.out; omega)⟩
  case assign =>
    intro l x W K hK
    gi_wp2
    exact hK
  case body =>
    rintro l pre ⟨⟨xi, xz⟩, hx0, hx1⟩ W ⟨⟨h2, h3⟩, hB⟩ hlt
    dsimp only at hx0 hx1
    obtain ⟨z, rfl⟩ : ∃ z : Nat, xz = (z : Int) := ⟨xz.toNat, by omega⟩
    have hz2 : z < 2 ^ k := by rw [Int.toNat_natCast] at hx1; exact hx1
    have hz64 := p64 hk6 hz2
    obtain ⟨x, hxx⟩ : ∃ x : { p // IsSet k p }, x = ⟨(xi, (z : Int)), hx0, hx1⟩ := ⟨_, rfl⟩
    have hxz : x.1.2 = (z : Int) := by rw [hxx]
    have hUS := unvI_snoc cs (sndL pre) (z : Int)
    have hUB := unvI_bound (cs := cs) (HZ64.out pre)
    have hmo : morI cs (z : Int) = ((cntV cs true (mem z) : Nat) : Int) - ((cntV cs false (mem z) : Nat) : Int) := by unfold morI; rw [Int.toNat_natCast]
    have hA6 := Nat.le_trans (cntV_le cs true (mem z)) (mem_le6 hz64)
    have hC6 := Nat.le_trans (cntV_le cs false (mem z)) (mem_le6 hz64)
    have HC1 := Lib.hid (fun V (hV : Below w.heap.size w V) => HCT.out true z V hz2 hV)
    have HC2 := Lib.hid (fun V (hV : Below w.heap.size w V) => HCT.out false z V hz2 hV)
    obtain ⟨CT, hCT⟩ : ∃ CT, CT = cntV cs true (mem z) := ⟨_, rfl⟩
    obtain ⟨CF, hCF⟩ : ∃ CF, CF = cntV cs false (mem z) := ⟨_, rfl⟩
    obtain ⟨U, hU⟩ : ∃ U, U = unvI cs (sndL pre) := ⟨_, rfl⟩
    rw [← hCT] at HC1 hmo hA6
    rw [← hCF] at HC2 hmo hC6
    rw [← hU] at hUS hUB h3
    have HUS : Hid (unvI cs (sndL (pre ++ [x])) = max U (max ((CT : Int) - (CF : Int)) (-((CT : Int) - (CF : Int))))) := Lib.hid (by rw [sndL_snoc, hxz, hUS, hmo]; omega)
    obtain ⟨hU0, hU6⟩ := hUB
    have x0 : W.drew.cell? ⟨w.heap.size + 1, 0, none⟩ = some (.slice la k lc) := (blk_cell h2 0).trans (cell1_0 _)
    have hX1 : w.heap.size + 1 < W.drew.heap.size := lt_of_some h2
    have H2 := Lib.hid h2
    have H3 := Lib.hid h3
    have HB := Lib.hid hB
    have hA6I : (CT : Int) ≤ 6 := by omega
    have hC6I : (CF : Int) ≤ 6 := by omega
    have hA0I : (0 : Int) ≤ (CT : Int) := by omega
    have hC0I : (0 : Int) ≤ (CF : Int) := by omega
    dsimp only
    rw [← hxx]
    clear h2 h3 hB hxx hxz hUS hmo hCT hCF hU hx0 hx1
    gi_wp2
    refine wpIn_region_held (A := fun ls => { tmps := #[.agg #[.int .i64 m, .slice a zs.length c], .slice la k lc, .pointer (some ⟨w.heap.size, 0, none⟩), .pointer (some ⟨w.heap.size + 1, 0, none⟩), .int .i64 0, .pointer (some ⟨w.heap.size + 1 + 1, 0, none⟩), undef, .int .i64 (z : Int), (bif ls.getD 7 false then .int .i64 ((CT : Int) - (CF : Int)) else undef), .agg #[.int .i64 m, .slice a zs.length c], .func (.func 86) #[] #[.pointer (some ⟨w.heap.size + 1 + 1 + 1, 0, none⟩)], .int .i64 (xi : Int), .int .i64 (z : Int), (bif ls.getD 0 false then .slice la k lc else undef), (bif ls.getD 1 false then .int .i64 (z : Int) else undef), (bif ls.getD 2 false then .int .i64 (CT : Int) else undef), (bif ls.getD 3 false then .slice la k lc else undef), (bif ls.getD 4 false then .int .i64 (z : Int) else undef), (bif ls.getD 5 false then .int .i64 (CF : Int) else undef), (bif ls.getD 6 false then .int .i64 ((CT : Int) - (CF : Int)) else undef), undef, undef, undef, undef, undef, undef], defers := [] }) (S := fun _ W'' => Below W.drew.heap.size W.drew W'') hmx (by kernel_rfl) rfl (Below.refl _ _) ?step ?fin
    case step =>
      intro listed W'' i hsz hi hS
      obtain ⟨l0, l1, l2, l3, l4, l5, l6, l7, rfl⟩ := arr8 listed hsz
      obtain ⟨hi1, hi2⟩ := List.mem_filter.1 hi
      have hi8 : i < 8 := by simpa using hi1
      have HSS := Lib.hid (show Below W.drew.heap.size W.drew W'' from hS)
      clear hi hi1 hsz hS
      have hcase : i = 0 ∨ i = 1 ∨ i = 2 ∨ i = 3 ∨ i = 4 ∨ i = 5 ∨ i = 6 ∨ i = 7 := by omega
      rcases hcase with rfl | rfl | rfl | rfl | rfl | rfl | rfl | rfl
      · clear hi2
        have y0 := (HSS.out.cell (p := ⟨w.heap.size + 1, 0, none⟩) hX1).trans x0
        refine wpOpIn_of_list rfl ?_
        gi_wp2
        exact ⟨rfl, HSS.out⟩
      · clear hi2
        refine wpOpIn_of_list rfl ?_
        gi_wp2
        exact ⟨rfl, HSS.out⟩
      · have g0 : l0 = true := by simp [Region.binds] at hi2; simp_all
        have g1 : l1 = true := by simp [Region.binds] at hi2; simp_all
        subst g0
        subst g1
        clear hi2
        refine wpOpIn_of_list rfl ?_
        gi_wp2_with (refine ⟨trivial, ?_⟩; gi_at_call 83; refine (CallsIn.inRound l (callsIn_wide.2 (HC1.out W'' (HB.out.drew.trans (HSS.out.mono HB.out.size))))).mono ?_; rintro e w2 ⟨rfl, hb2⟩)
        exact ⟨rfl, HSS.out.trans (hb2.mono HSS.out.size)⟩
      · clear hi2
        have y0 := (HSS.out.cell (p := ⟨w.heap.size + 1, 0, none⟩) hX1).trans x0
        refine wpOpIn_of_list rfl ?_
        gi_wp2
        exact ⟨rfl, HSS.out⟩
      · clear hi2
        refine wpOpIn_of_list rfl ?_
        gi_wp2
        exact ⟨rfl, HSS.out⟩
      · have g3 : l3 = true := by simp [Region.binds] at hi2; simp_all
        have g4 : l4 = true := by simp [Region.binds] at hi2; simp_all
        subst g3
        subst g4
        clear hi2
        refine wpOpIn_of_list rfl ?_
        gi_wp2_with (refine ⟨trivial, ?_⟩; gi_at_call 83; refine (CallsIn.inRound l (callsIn_wide.2 (HC2.out W'' (HB.out.drew.trans (HSS.out.mono HB.out.size))))).mono ?_; rintro e w2 ⟨rfl, hb2⟩)
        exact ⟨rfl, HSS.out.trans (hb2.mono HSS.out.size)⟩
      · have g2 : l2 = true := by simp [Region.binds] at hi2; simp_all
        have g5 : l5 = true := by simp [Region.binds] at hi2; simp_all
        subst g2
        subst g5
        clear hi2
        refine wpOpIn_of_list rfl ?_
        gi_wp2
        exact ⟨rfl, HSS.out⟩
      · have g6 : l6 = true := by simp [Region.binds] at hi2; simp_all
        subst g6
        clear hi2
        refine wpOpIn_of_list rfl ?_
        gi_wp2
        exact ⟨rfl, HSS.out⟩
    case fin =>
      intro listed w3 hsz hall hS
      obtain ⟨l0, l1, l2, l3, l4, l5, l6, l7, rfl⟩ := arr8 listed hsz
      simp at hall
      obtain ⟨rfl, rfl, rfl, rfl, rfl, rfl, rfl, rfl⟩ := hall
      have hb23 : Below W.heap.size W w3 := (Below.refl _ W).drew.trans hS
      have HB23 := Lib.hid hb23
      have h3' := (hb23.block _ (lt_of_some H3.out)).trans H3.out
      have m0 := (blk_cell h3' 0).trans (cell1_0 _)
      have m1 := blk_frozen h3' 0
      have H3' := Lib.hid h3'
      have H2' : Hid (HasBlk w3 (w.heap.size + 1) #[.slice la k lc] 55) := Lib.hid ((hb23.block _ (lt_of_some H2.out)).trans H2.out)
      clear hb23 hS h3' x0
      gi_wp2
      refine ⟨(KeepsFrom.trans ⟨HB23.out.size, fun k o _ hk _ => (HB23.out.block k (lt_of_some hk)).trans hk⟩ ((KeepsOthers.setCell _ _ _).from _)), (HB23.out.mono HB.out.size).setCell (p := ⟨w.heap.size + 1 + 1, 0, none⟩) (by show w.heap.size ≤ w.heap.size + 1 + 1; omega) _, ⟨HasBlk.far H2'.out (show w.heap.size + 1 ≠ w.heap.size + 1 + 1 by omega) _, ?_⟩, (HB.out.trans (HB23.out.mono HB.out.size)).setCell (p := ⟨w.heap.size + 1 + 1, 0, none⟩) (by show w.heap.size ≤ w.heap.size + 1 + 1; omega) _⟩
      rw [HUS.out]
      exact Boxed.set _ H3'.out
  case done =>
    rintro E ys W hE hys ⟨⟨h2, h3⟩, hB⟩ hK
    rw [sndL_all hys] at h3
    have r0 := (blk_cell h3 0).trans (cell1_0 _)
    have HB := Lib.hid hB
    have HK2 := Lib.hid hK
    have HEs : Hid (w.heap.size ≤ E) := Lib.hid (by have := HS3.out; have := HS2.out; omega)
    clear h2 h3 hB hK hys
    gi_wp2
    refine ⟨by simp, .inl ⟨_, _, rfl, run_takeDeferred HK2.out, ?_⟩⟩
    exact ⟨.int .i64 (unvI cs zs), by simp [results, Tryd.results45, go_sem], rfl, HB.out.trans (belowK_b (w := w) (Nat.le_refl _) W E _ _ HEs.out HK2.out rfl rfl)⟩
  case stop =>
    rintro E c' pre W hE hp h hK
    exact h.elim

end Go.Proofs.YtckbhhaigpajpaaDoor

/- It is proved that the most clubs that get a member of a set are all clubs but as many as the worst set of places falls short by; conditions: those of each statement. -/
namespace Go.Proofs.YtckbhhaigpajpaaDoor
open Go.RowKit

/-- How many of the first k numbers a set has. -/
def cntK (k s : Nat) : Nat := (memK k s).length

end Go.Proofs.YtckbhhaigpajpaaDoor
