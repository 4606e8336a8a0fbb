/- It is proved how many kinds of colours a club has, and when colours are mixed or proper; conditions: those of each statement. -/
import Derived.RowKit
import Derived.Laws.CopyRow
import Derived.Lib.SlBuf
import Derived.Deep.QuietTactic
import Derived.RangeFuncNested
import Derived.RangeFuncBound
import Derived.RangeFuncCalls
import Derived.RangeFuncLeaves
import Derived.RangeFuncBox
import Derived.RangeFuncWrites
import Derived.StillTailTactics
import Derived.Maps.OwnIn
import Derived.Maps.Ext
import Derived.DeepKeys4
import Derived.MapKept
import Derived.Test.YtphddemilibooaaDoorRows
import Derived.WalkKit
import Derived.WalkSpells
import Derived.ProofKit
import Derived.OpenShut
import Derived.ShutString
import Derived.ChangeOld
import Derived.Below
import Derived.Deep.RegionHeld3
import Derived.BigQuiet
import Derived.Lib.Hide
import Derived.Lib.SmallJoins
import Derived.Outline
import Derived.Laws.MakeOwn
import Derived.Laws.OwnMore
import Derived.IntWalk
import Derived.Maps.AppendAt
import Derived.Deep.RegionLaw
import Derived.Deep.AppendLies
import Derived.Lib.AppendZeros
import Derived.OwnWalk
import Derived.Lib.SlicesCompact
import Derived.Lib.OwnBridge
import Derived.OrdersIn
import Derived.TacticsIn
import Derived.Shelf.Sort.Plain
import Derived.Shelf.Slices.In.SortNone
import Derived.Shelf.Slices.CompactI
import Derived.Ground.Names2Prog
import Derived.Lib.SliceRun
import Derived.Shelf.Abstract
import Derived.Shelf.RegionOpen
import Derived.OwnWalkIn
import Derived.TacticsInMore
import Derived.LoopNIn
import Derived.LoopIn
import Derived.StillTail
import Derived.StillTactics
import Derived.Shelf.Spec.TrailingZeros
import Derived.Deep.LoopGhost
import Derived.Test.YtphddemilibooaaDoorRaas
import Derived.Test.YtphddemilibooaaDoorRabixFnProp
import Derived.Test.YtphddemilibooaaDoorRaaa
import Derived.Test.YtphddemilibooaaDoorRaab
import Derived.Test.YtphddemilibooaaDoorRaad
import Derived.Test.YtphddemilibooaaDoorRabhxFnProp
import Derived.Test.YtphddemilibooaaDoorRaal
import Derived.Test.YtphddemilibooaaDoorKc
import Derived.Test.YtphddemilibooaaDoorRaav
import Derived.Test.YtphddemilibooaaDoorSt
import Derived.Test.YtphddemilibooaaDoorRaaj
import Derived.Test.YtphddemilibooaaDoorRaat
import Derived.Test.YtphddemilibooaaDoorRaaz
namespace Go.Proofs.YtphddemilibooaaDoor
open Go.RowKit Go.Shelf

attribute [local go_sem] Oper.semAt_some

theorem any_cont (l : List Int) (x : Int) : (l.any fun z => decide (z = x)) = l.contains x := by
  rw [Bool.eq_iff_iff]; simp

/-- The kinds of colours of some members. -/
def kindsV (cs : List Int) (vs : List Nat) : List Int := kindsOf (vs.map fun v => cs[v]?.getD 0)

theorem kindsV_yes {cs : List Int} {vs : List Nat} {v : Nat} (h : (kindsV cs vs).contains (cs[v]?.getD 0) = true) : kindsV cs (vs ++ [v]) = kindsV cs vs := by
  unfold kindsV at h ⊢
  rw [List.map_append, List.map_cons, List.map_nil, kindsOf_snoc, addK, if_pos h]

theorem kindsV_no {cs : List Int} {vs : List Nat} {v : Nat} (h : (kindsV cs vs).contains (cs[v]?.getD 0) = false) : kindsV cs (vs ++ [v]) = kindsV cs vs ++ [cs[v]?.getD 0] := by
  unfold kindsV at h ⊢
  rw [List.map_append, List.map_cons, List.map_nil, kindsOf_snoc, addK, if_neg (by rw [h]; simp)]

theorem kindsV_len (cs : List Int) (vs : List Nat) : (kindsV cs vs).length ≤ vs.length := by
  have := (kinds_inv (vs.map fun v => cs[v]?.getD 0)).2.2
  rw [List.length_map] at this
  exact this

theorem col_ne : (67 : TypeId) ≠ 3 := by decide
set_option maxRecDepth 100000 in
set_option maxHeartbeats 8000000 in
theorem kinds_any (a : Option Addr) (n : Nat) (cs : List Int) (z : Nat) (hcs : cs.length = n) (hn : n ≤ 6) (hz : z < 2 ^ n) (w : World) (hc : Ints w w.heap.size a cs) (hT : Tab w) :
    Calls Tryd.prog 73 #[.slice a n n, .int .i64 (z : Int)] w fun e w' => e = .returned (.int .i64 ((kindsOf (colsZ cs (z : Int))).length : Int)) ∧ Below w.heap.size w w' := by
  have hz64 : z < 64 := p64 hn hz
  have h16 : 1 ≤ 6 := by omega
  have hT1 := hT.lt
  have hmx : Tryd.prog.follows .mixedOrders = true := by kernel_rfl
  have hk0 : kindsOf (colsZ cs (z : Int)) = kindsV cs (mem z) := by unfold kindsV colsZ; rw [Int.toNat_natCast]
  rw [hk0]
  obtain ⟨W2, hW2, q0, q1, hs2, hb2⟩ : ∃ W2, (w.alloc (.cells #[.slice a n n] 67)).alloc (.cells #[.slice none 0 0] 23) = W2 ∧ HasBlk W2 w.heap.size #[.slice a n n] 67 ∧ IntBox (w.heap.size + 1) w.heap.size [] W2 ∧ W2.heap.size = w.heap.size + 1 + 1 ∧ Below w.heap.size w W2 :=
    ⟨_, rfl, alloc2_0 w _ _, by have := IntBox.start (w.alloc (.cells #[.slice a n n] 67)) w.heap.size; rwa [World.size_alloc] at this, by simp, below2 w _ _⟩
  obtain ⟨W3, hW3, q2, hs3, hb3⟩ : ∃ W3, W2.alloc (.cells #[.int .i64 (z : Int)] 37) = W3 ∧ HasBlk W3 (w.heap.size + 1 + 1) #[.int .i64 (z : Int)] 37 ∧ W3.heap.size = W2.heap.size + 1 ∧ Below W2.heap.size W2 W3 :=
    ⟨_, rfl, by have := alloc_new W2 (.cells #[.int .i64 (z : Int)] 37); rwa [hs2] at this, by simp, below1 W2 _⟩
  have hb03 := hb2.trans (hb3.mono (show w.heap.size ≤ W2.heap.size by omega))
  have hst := membersS_stops (6 - 1) (by omega) (w.heap.size + 1 + 1) w.heap.size z hz64 W3 (by omega) (by omega) (by omega) ((blk_cell q2 0).trans (cell1_0 _)) (hT.below hb03 hT1)
  have HST := Lib.hid hst
  have HQ0 : Hid (HasBlk W3 w.heap.size #[.slice a n n] 67) := Lib.hid ((hb3.block _ (by omega)).trans q0)
  have HQ1 : Hid (IntBox (w.heap.size + 1) w.heap.size (kindsV cs []) W3) := Lib.hid (by rw [← hW3]; exact q1.alloc _)
  have HB3 := Lib.hid hb03
  have HI := Lib.hid hc
  have HW2 := Lib.hid hW2
  have HW3 := Lib.hid hW3
  have HS2 := Lib.hid hs2
  have HS3 := Lib.hid hs3
  have HCS := Lib.hid hcs
  have HZ := Lib.hid hz
  clear hc q0 q1 q2 hb2 hb3 hb03 hst hW2 hW3 hs2 hs3 hT hcs hk0 hz
  refine (callsIn_wide (n := 6)).1 ?_
  refine callsIn_of_wp_marks Tryd.func73 rfl trivial ?_ rfl
  simp only [Tryd.ntmps73, List.size_toArray, List.length_cons, List.length_nil, Nat.reduceAdd, Nat.reduceSub, Array.replicate_succ, Array.replicate_zero, List.push_toArray, List.append_toArray, List.nil_append, List.cons_append]
  gi_wp2_with (refine ⟨trivial, ?_⟩; gi_at_call 39; refine (callsIn_wide.2 (members_any _ _)).mono ?_; rintro e w' ⟨rfl, rfl⟩)
  rw [HW2.out, HW3.out]
  refine wpIn_rangeFunc_ownG rfl h16 (gf := 64) (lb := #[.pointer (some ⟨w.heap.size + 1 + 1, 0, none⟩)]) rfl trivial (enters_of Tryd.func64 (by kernel_rfl) rfl)
    HST.out belowK_t (belowK_b (by have := HS3.out; have := HS2.out; omega)) (Below.refl _ _) (fun _ => rfl)
    (fun pre W => (IntBox (w.heap.size + 1) w.heap.size (kindsV cs (valsS pre)) W ∧ HasBlk W w.heap.size #[.slice a n n] 67) ∧ Below w.heap.size w W)
    (fun _ _ _ => False)
    (OwnFrom.and (OwnFrom.and (Own.from (IntBox.own _ _ (fun pre : List (MemS z) => kindsV cs (valsS pre))) _) (Own.from (hasBlk_own _ _ _) _)) (ownFrom_below (Nat.le_refl _) (by have := HS3.out; have := HS2.out; omega)))
    (fun _ _ _ _ _ hs _ _ => hs)
    ⟨⟨HQ1.out, HQ0.out⟩, HB3.out⟩
    (fun x => { tmps := #[.slice a n n, .int .i64 (z : Int), .pointer (some ⟨w.heap.size, 0, none⟩), undef, .int .i64 0, .pointer (some ⟨w.heap.size + 1, 0, none⟩), .int .i64 (x.1 : Int), .int .i64 (z : Int), .func (.func 64) #[] #[.pointer (some ⟨w.heap.size + 1 + 1, 0, none⟩)], .int .i64 (x.1 : Int), undef, undef, undef, undef, undef, undef, undef, undef, undef, undef, undef, undef, undef, undef, undef, undef], defers := [] }) ?assign ?body ?done ?stop
  case assign =>
    intro l x W K hK
    gi_wp2
    exact hK
  case body =>
    rintro l pre ⟨x, hxm⟩ W ⟨⟨hv, q0⟩, hB⟩ hlt
    obtain ⟨xx, hxx⟩ : ∃ xx : MemS z, xx = ⟨x, hxm⟩ := ⟨_, rfl⟩
    have hxn : x < n := mem_lt n hn z HZ.out x hxm
    obtain ⟨b1, o1, rfl, hb1, hc1⟩ := HI.out.at_ (k := x) (by rw [HCS.out]; exact hxn)
    obtain ⟨y, hy⟩ : ∃ y, y = cs[x]?.getD 0 := ⟨_, rfl⟩
    rw [← hy] at hc1
    obtain ⟨K, hK⟩ : ∃ K, K = kindsV cs (valsS pre) := ⟨_, rfl⟩
    have hKl : K.length ≤ 6 := by rw [hK]; exact Nat.le_trans (kindsV_len _ _) (by unfold valsS; rw [List.length_map]; omega)
    rw [← hK] at hv
    obtain ⟨ga, gc, hvb, hrow⟩ := hv.ints
    have c1 := (hB.cell (p := ⟨b1, o1 + x, none⟩) hb1).trans hc1
    have x0 := (blk_cell q0 0).trans (cell1_0 _)
    have d0 := (blk_cell hvb 0).trans (cell1_0 _)
    have hCON := containsX_any ga gc K y W.drew (hrow.ints : Ints W W.heap.size ga K) (by omega)
    rw [any_cont] at hCON
    have HSY : Hid (K.contains y = true → kindsV cs (valsS (pre ++ [xx])) = K) := Lib.hid (fun h => by rw [valsS_snoc, hxx, hK]; exact kindsV_yes (by rw [← hK, ← hy]; exact h))
    have HSN : Hid (K.contains y = false → kindsV cs (valsS (pre ++ [xx])) = K ++ [y]) := Lib.hid (fun h => by rw [valsS_snoc, hxx, hK, hy]; exact kindsV_no (by rw [← hK, ← hy]; exact h))
    have HV := Lib.hid hv
    have HVB := Lib.hid hvb
    have HROW := Lib.hid hrow
    have HQ := Lib.hid q0
    have HB := Lib.hid hB
    have hxI : (x : Int) < (n : Int) := by omega
    have hx0 : (0 : Int) ≤ (x : Int) := by omega
    obtain ⟨kl, hkl⟩ : ∃ kl, kl = K.length := ⟨_, rfl⟩
    have HKL := Lib.hid hkl
    rw [← hkl] at d0 hCON
    dsimp only
    rw [← hxx]
    clear hv hvb hrow q0 hB hxm hxx hK hc1 hy hkl
    cases hcon : K.contains y
    · have HC := Lib.hid (HSN.out hcon)
      rw [hcon] at hCON
      clear hcon
      have hlo : w.heap.size ≤ W.drew.heap.size := HB.out.size
      obtain ⟨v', w1, hrun, hown, hgrow⟩ := appW_run (W := W.drew.drew) (lo := w.heap.size) (v := .slice ga kl gc) (xs := K) (n := kl) (by rw [HKL.out]; exact HROW.out) hlo (by rw [HKL.out]; omega) y
      obtain ⟨g9, cap9, hv9⟩ := ownsRow_succ hown
      have HV9 := Lib.hid hv9
      clear hv9
      have hvb2 : HasBlk W.drew.drew (w.heap.size + 1) #[.slice ga kl gc] 23 := by rw [HKL.out]; exact HVB.out
      have hown2 := hown
      rw [HKL.out] at hown2
      obtain ⟨hv1, hv2, hk2, hb2⟩ := IntBox.appended (W := W.drew.drew) (zs := K) hvb2 (by rw [HKL.out]; exact HROW.out) hlo (show w.heap.size ≤ w.heap.size + 1 by omega) hown2 hgrow
      have e0 : W.drew.drew.cell? ⟨w.heap.size + 1, 0, none⟩ = some (.slice ga kl gc) := (blk_cell hvb2 0).trans (cell1_0 _)
      have e1 := (blk_cell (HasBlk.alloc hvb2 (.cells #[.int .i64 y] 3)) 0).trans (cell1_0 _)
      have e1' : (W.alloc (.cells #[.int .i64 y] 3)).cell? ⟨w.heap.size + 1, 0, none⟩ = some (.slice ga kl gc) := (blk_cell (HasBlk.alloc (W := W) (show HasBlk W (w.heap.size + 1) #[.slice ga kl gc] 23 from hvb2) (.cells #[.int .i64 y] 3)) 0).trans (cell1_0 _)
      have e2 := (blk_cell hv1 0).trans (cell1_0 _)
      have f2 := blk_frozen hv1 0
      have xb : W.drew.drew.cell? ⟨w.heap.size, 0, none⟩ = some (.slice (some ⟨b1, o1, none⟩) n n) := x0
      have cb : W.drew.drew.cell? ⟨b1, o1 + x, none⟩ = some (.int .i64 y) := c1
      have HV2 := Lib.hid hv2
      have HB2 := Lib.hid hb2
      have HK2 := Lib.hid hk2
      have HRUN := Lib.hid hrun
      have hn0 := (hasBlk_not_row (W := W.drew.drew) HQ.out col_ne (by rw [HKL.out]; exact HROW.out : W.drew.drew.ownsRow w.heap.size 3 1 (.slice ga kl gc) kl (K.map (Value.int .i64)))).symm
      have HQ3 : Hid (HasBlk (w1.setCell ⟨w.heap.size + 1, 0, none⟩ v') w.heap.size #[.slice (some ⟨b1, o1, none⟩) n n] 67) := Lib.hid (HasBlk.far (p := ⟨w.heap.size + 1, 0, none⟩) ((HasBlk.alloc (W := W.drew.drew) HQ.out _).kept hgrow hn0) (by show w.heap.size ≠ w.heap.size + 1; omega) v')
      clear hrun hown hown2 hgrow hv1 hv2 hk2 hb2 hvb2 hn0
      gi_wp2
      refine wpIn_region_still_tail_o (Fence.Open.wide.inRound l) 6 hmx (by kernel_rfl) (by kernel_rfl) ?_
      simp only [List.take_succ_cons, List.take_zero, List.drop_succ_cons, List.drop_zero]
      repeat still_step
      still_call (hCON.mono fun _ _ h => ⟨h.1, h.2.symm⟩)
      repeat still_step
      refine wpStill_nil ?_
      change wpListIn _ _ _ _ _ _ _ W.drew
      gi_wp2
      refine wpIn_region_held (A := fun ls => { tmps := #[.slice (some ⟨b1, o1, none⟩) n n, .int .i64 (z : Int), .pointer (some ⟨w.heap.size, 0, none⟩), undef, .int .i64 0, .pointer (some ⟨w.heap.size + 1, 0, none⟩), .int .i64 (x : Int), .int .i64 (z : Int), .func (.func 64) #[] #[.pointer (some ⟨w.heap.size + 1 + 1, 0, none⟩)], .int .i64 (x : Int), .slice ga kl gc, .slice (some ⟨b1, o1, none⟩) n n, .int .i64 (x : Int), .pointer (some ⟨b1, o1 + x, none⟩), .int .i64 y, .bool false, .bool true, (bif ls.getD 0 false then .slice ga kl gc else undef), (bif ls.getD 1 false then .slice (some ⟨b1, o1, none⟩) n n else undef), (bif ls.getD 2 false then .int .i64 (x : Int) else undef), (bif ls.getD 3 false then .pointer (some ⟨b1, o1 + x, none⟩) else undef), (bif ls.getD 4 false then .int .i64 y else undef), (bif ls.getD 5 false then .slice (some ⟨W.heap.size, 0, none⟩) 1 1 else undef), (bif ls.getD 6 false then v' else undef), undef, undef], defers := [] })
        (S := fun ls W'' => (ls.getD 3 false = true → ls.getD 1 false = true) ∧ (ls.getD 4 false = true → ls.getD 3 false = true) ∧ (ls.getD 5 false = true → ls.getD 4 false = true) ∧ (ls.getD 6 false = true → ls.getD 5 false = true ∧ ls.getD 0 false = true) ∧ (ls.getD 7 false = true → ls.getD 6 false = true) ∧ W'' = (bif ls.getD 7 false then w1.setCell ⟨w.heap.size + 1, 0, none⟩ v' else bif ls.getD 6 false then w1 else bif ls.getD 5 false then W.drew.drew.alloc (.cells #[.int .i64 y] 3) else W.drew.drew)) hmx (by kernel_rfl) rfl ⟨by simp, by simp, by simp, by simp, by simp, rfl⟩ ?step ?fin
      case step =>
        intro listed W'' i hsz hi hS
        obtain ⟨l0, l1, l2, l3, l4, l5, l6, l7, rfl⟩ := arr8 listed hsz
        obtain ⟨hi1, hi2⟩ := List.mem_filter.1 hi
        have hi8 : i < 8 := by simpa using hi1
        obtain ⟨s1, s2, s3, s4, s5, s6⟩ := hS
        have HT1 := Lib.hid s1
        have HT2 := Lib.hid s2
        have HT3 := Lib.hid s3
        have HT4 := Lib.hid s4
        have HT5 := Lib.hid s5
        change l3 = true → l1 = true at s1
        change l4 = true → l3 = true at s2
        change l5 = true → l4 = true at s3
        change l6 = true → l5 = true ∧ l0 = true at s4
        change l7 = true → l6 = true at s5
        change W'' = (bif l7 then w1.setCell ⟨w.heap.size + 1, 0, none⟩ v' else bif l6 then w1 else bif l5 then W.drew.drew.alloc (.cells #[.int .i64 y] 3) else W.drew.drew) at s6
        have hcase : i = 0 ∨ i = 1 ∨ i = 2 ∨ i = 3 ∨ i = 4 ∨ i = 5 ∨ i = 6 ∨ i = 7 := by omega
        rcases hcase with rfl | rfl | rfl | rfl | rfl | rfl | rfl | rfl
        · have g0 : l0 = false := by simp [Region.binds] at hi2; simp_all
          have g6 : l6 = false := by cases h : l6 <;> first | rfl | (have h2 := s4 h; simp_all)
          have g7 : l7 = false := by cases h : l7 <;> first | rfl | (have h2 := s5 h; simp_all)
          subst g0; subst g6; subst g7
          cases l5
          all_goals
            clear s1 s2 s3 s4 s5
            simp only [cond_false, cond_true] at s6
            subst s6
            refine wpOpIn_of_list rfl ?_
            gi_wp2
            exact ⟨rfl, (by first | (simp; done) | simpa using HT1.out), (by first | (simp; done) | simpa using HT2.out), (by first | (simp; done) | simpa using HT3.out), (by simp), (by simp), by rfl⟩
        · have g1 : l1 = false := by simp [Region.binds] at hi2; simp_all
          have g3 : l3 = false := by cases h : l3 <;> first | rfl | (have h2 := s1 h; simp_all)
          have g4 : l4 = false := by cases h : l4 <;> first | rfl | (have h2 := s2 h; simp_all)
          have g5 : l5 = false := by cases h : l5 <;> first | rfl | (have h2 := s3 h; simp_all)
          have g6 : l6 = false := by cases h : l6 <;> first | rfl | (have h2 := s4 h; simp_all)
          have g7 : l7 = false := by cases h : l7 <;> first | rfl | (have h2 := s5 h; simp_all)
          subst g1; subst g3; subst g4; subst g5; subst g6; subst g7
          clear s1 s2 s3 s4 s5
          simp only [cond_false, cond_true] at s6
          subst s6
          refine wpOpIn_of_list rfl ?_
          gi_wp2
          exact ⟨rfl, (by simp), (by simp), (by simp), (by simp), (by simp), by rfl⟩
        · have S3 := Lib.hid s6
          clear s6
          refine wpOpIn_of_list rfl ?_
          gi_wp2
          exact ⟨rfl, (by first | (simp; done) | simpa using HT1.out), (by first | (simp; done) | simpa using HT2.out), (by first | (simp; done) | simpa using HT3.out), (by first | (simp; done) | simpa using HT4.out), (by first | (simp; done) | simpa using HT5.out), by exact S3.out⟩
        · have g1 : l1 = true := by simp [Region.binds] at hi2; simp_all
          have g2 : l2 = true := by simp [Region.binds] at hi2; simp_all
          have g3 : l3 = false := by simp [Region.binds] at hi2; simp_all
          have g4 : l4 = false := by cases h : l4 <;> first | rfl | (have h2 := s2 h; simp_all)
          have g5 : l5 = false := by cases h : l5 <;> first | rfl | (have h2 := s3 h; simp_all)
          have g6 : l6 = false := by cases h : l6 <;> first | rfl | (have h2 := s4 h; simp_all)
          have g7 : l7 = false := by cases h : l7 <;> first | rfl | (have h2 := s5 h; simp_all)
          subst g1; subst g2; subst g3; subst g4; subst g5; subst g6; subst g7
          clear s1 s2 s3 s4 s5
          simp only [cond_false, cond_true] at s6
          subst s6
          refine wpOpIn_of_list rfl ?_
          gi_wp2
          exact ⟨rfl, (by simp), (by simp), (by simp), (by simp), (by simp), by rfl⟩
        · have g3 : l3 = true := by simp [Region.binds] at hi2; simp_all
          have g4 : l4 = false := by simp [Region.binds] at hi2; simp_all
          have g1 : l1 = true := s1 g3
          have g5 : l5 = false := by cases h : l5 <;> first | rfl | (have h2 := s3 h; simp_all)
          have g6 : l6 = false := by cases h : l6 <;> first | rfl | (have h2 := s4 h; simp_all)
          have g7 : l7 = false := by cases h : l7 <;> first | rfl | (have h2 := s5 h; simp_all)
          subst g1; subst g3; subst g4; subst g5; subst g6; subst g7
          clear s1 s2 s3 s4 s5
          simp only [cond_false, cond_true] at s6
          subst s6
          refine wpOpIn_of_list rfl ?_
          gi_wp2
          exact ⟨rfl, (by simp), (by simp), (by simp), (by simp), (by simp), by rfl⟩
        · have g4 : l4 = true := by simp [Region.binds] at hi2; simp_all
          have g5 : l5 = false := by simp [Region.binds] at hi2; simp_all
          have g6 : l6 = false := by cases h : l6 <;> first | rfl | (have h2 := s4 h; simp_all)
          have g7 : l7 = false := by cases h : l7 <;> first | rfl | (have h2 := s5 h; simp_all)
          subst g4; subst g5; subst g6; subst g7
          clear s1 s2 s3 s4 s5
          simp only [cond_false, cond_true] at s6
          subst s6
          refine wpOpIn_of_list rfl ?_
          gi_wp2
          exact ⟨rfl, (by first | (simp; done) | simpa using HT1.out), (by first | (simp; done) | simpa using HT2.out), (by simp), (by simp), (by simp), by rfl⟩
        · have g0 : l0 = true := by simp [Region.binds] at hi2; simp_all
          have g5 : l5 = true := by simp [Region.binds] at hi2; simp_all
          have g6 : l6 = false := by simp [Region.binds] at hi2; simp_all
          have g7 : l7 = false := by cases h : l7 <;> first | rfl | (have h2 := s5 h; simp_all)
          subst g0; subst g5; subst g6; subst g7
          clear s1 s2 s3 s4 s5
          simp only [cond_false, cond_true] at s6
          subst s6
          refine wpOpIn_of_list rfl ?_
          refine wpListIn_append_run rfl _ _ 23 23 rfl (.slice ga kl gc) (.slice (some ⟨W.heap.size, 0, none⟩) 1 1) rfl rfl HRUN.out ?_
          gi_wp2
          exact ⟨rfl, (by first | (simp; done) | simpa using HT1.out), (by first | (simp; done) | simpa using HT2.out), (by first | (simp; done) | simpa using HT3.out), (by simp), (by simp), by rfl⟩
        · have g6 : l6 = true := by simp [Region.binds] at hi2; simp_all
          have g7 : l7 = false := by simp [Region.binds] at hi2; simp_all
          obtain ⟨g5, g0⟩ := s4 g6
          have g4 := s3 g5
          have g3 := s2 g4
          have g1 := s1 g3
          subst g0; subst g1; subst g3; subst g4; subst g5; subst g6; subst g7
          clear s1 s2 s3 s4 s5
          simp only [cond_false, cond_true] at s6
          subst s6
          have hv9 := HV9.out
          subst hv9
          refine wpOpIn_of_list rfl ?_
          gi_wp2
          first | exact ⟨rfl, (by simp), (by simp), (by simp), (by simp), (by simp), by rfl⟩ | exact ⟨rfl, by rfl⟩
      case fin =>
        intro listed W'' hsz hall hS
        obtain ⟨l0, l1, l2, l3, l4, l5, l6, l7, rfl⟩ := arr8 listed hsz
        simp at hall
        obtain ⟨rfl, rfl, rfl, rfl, rfl, rfl, rfl, rfl⟩ := hall
        obtain ⟨-, -, -, -, -, s6⟩ := hS
        change W'' = w1.setCell ⟨w.heap.size + 1, 0, none⟩ v' at s6
        subst s6
        gi_wp2
        have hkd : KeepsOthers W W.drew.drew := (KeepsOthers.drew W).trans (KeepsOthers.drew W.drew)
        have hbd : Below w.heap.size W W.drew.drew := (Below.refl _ W).drew.drew
        exact ⟨(hkd.trans HK2.out).from _, hbd.trans HB2.out, ⟨by rw [HC.out]; exact HV2.out, HQ3.out⟩, HB.out.trans (hbd.trans HB2.out)⟩
    · have HC := Lib.hid (HSY.out hcon)
      rw [hcon] at hCON
      clear hcon
      gi_wp2
      refine wpIn_region_still_tail_o (Fence.Open.wide.inRound l) 6 hmx (by kernel_rfl) (by kernel_rfl) ?_
      simp only [List.take_succ_cons, List.take_zero, List.drop_succ_cons, List.drop_zero]
      repeat still_step
      still_call (hCON.mono fun _ _ h => ⟨h.1, h.2.symm⟩)
      repeat still_step
      refine wpStill_nil ?_
      change wpListIn _ _ _ _ _ _ _ W.drew
      gi_wp2
      exact ⟨(KeepsOthers.drew W).from _, (Below.refl _ W).drew, ⟨by rw [HC.out]; exact HV.out, HQ.out⟩, HB.out.drew⟩
  case done =>
    rintro E ys W hE hys ⟨⟨hv, q0⟩, hB⟩ hK
    rw [hys] at hv
    obtain ⟨ga, gc, hvb, hrow⟩ := hv.ints
    have d0 := (blk_cell hvb 0).trans (cell1_0 _)
    have HB := Lib.hid hB
    have HK2 := Lib.hid hK
    have HEs : Hid (w.heap.size ≤ E) := Lib.hid (by have := HS3.out; have := HS2.out; omega)
    clear hv hvb hrow q0 hB hK hys
    gi_wp2
    refine ⟨by simp, .inl ⟨_, _, rfl, run_takeDeferred HK2.out, ?_⟩⟩
    exact ⟨_, by simp [results, Tryd.f73, go_sem], rfl, HB.out.trans (belowK_b (w := w) (Nat.le_refl _) _ E _ _ HEs.out HK2.out rfl rfl)⟩
  case stop =>
    rintro E c' pre W hE hp h hK
    exact h.elim

end Go.Proofs.YtphddemilibooaaDoor

/- It is proved whether some club has colours that are not proper; conditions: those of each statement. -/
namespace Go.Proofs.YtphddemilibooaaDoor
open Go.RowKit Go.Shelf

attribute [local go_sem] Oper.semAt_some

theorem mem8 {z : Nat} (h : z < 64) : memK 8 z = mem z := memW_is (k := 6) (by omega) (by omega)
set_option maxRecDepth 100000 in
theorem rightP_any (a : Option Addr) (n : Nat) (cs : List Int) (z : Nat) (hcs : cs.length = n) (hn : n ≤ 6) (hz : z < 2 ^ n) (w : World) (hc : Ints w w.heap.size a cs) (hT : Tab w) :
    Calls Tryd.prog 49 #[.slice a n n, .int .i64 (z : Int)] w fun e w' => e = .returned (.bool (propZ cs (z : Int))) ∧ Below w.heap.size w w' := by
  have HK := Lib.hid (kinds_any a n cs z hcs hn hz w hc hT)
  have hz64 : z < 64 := p64 hn hz
  have HS : Hid (∀ W, Calls Tryd.prog 26 #[.int .i64 (z : Int)] W fun e w' => e = .returned (.int .i64 ((mem z).length : Int)) ∧ W = w') := Lib.hid fun W => by
    have := sizeW_any z W (by omega)
    rwa [mem8 hz64] at this
  have HM : Hid (propZ cs (z : Int) = decide (((kindsOf (colsZ cs (z : Int))).length : Int) = ((mem z).length : Int))) := Lib.hid (by unfold propZ; rw [Int.toNat_natCast]; congr 1; simp only [eq_iff_iff]; omega)
  obtain ⟨K, hK⟩ : ∃ K, K = (kindsOf (colsZ cs (z : Int))).length := ⟨_, rfl⟩
  obtain ⟨M, hM⟩ : ∃ M, M = (mem z).length := ⟨_, rfl⟩
  rw [← hK] at HK HM
  rw [← hM] at HS HM
  clear hc hT hcs hz hK hM hz64
  by_cases h : (K : Int) = (M : Int)
  · have HD : Hid (propZ cs (z : Int) = true) := Lib.hid (by rw [HM.out, decide_eq_true h])
    obtain rfl : K = M := by omega
    clear h
    go_enter Tryd.func49, Tryd.ntmps49
    go_wp2_with fail
    refine HK.out.mono ?_
    rintro e w1 ⟨rfl, hb⟩
    have HB := Lib.hid hb
    clear hb
    go_wp2_with fail
    refine (HS.out _).mono ?_
    rintro e w2 ⟨rfl, rfl⟩
    go_wp2
    go_ret
    exact ⟨by rw [HD.out]; simp, HB.out⟩
  · have HD : Hid (propZ cs (z : Int) = false) := Lib.hid (by rw [HM.out, decide_eq_false h])
    go_enter Tryd.func49, Tryd.ntmps49
    go_wp2_with fail
    refine HK.out.mono ?_
    rintro e w1 ⟨rfl, hb⟩
    have HB := Lib.hid hb
    clear hb
    go_wp2_with fail
    refine (HS.out _).mono ?_
    rintro e w2 ⟨rfl, rfl⟩
    go_wp2
    go_ret
    exact ⟨by rw [HD.out]; simp; omega, HB.out⟩

set_option maxRecDepth 100000 in
set_option maxHeartbeats 2000000 in
theorem wrongP_any (a : Option Addr) (n : Nat) (cs : List Int) (z : Nat) (hcs : cs.length = n) (hn : n ≤ 6) (hz : z < 2 ^ n) (Bx Bl : Nat) (w : World) (hx : Boxed w Bx 66 (.func (.func 49) #[] #[])) (hl : Boxed w Bl 67 (.slice a n n)) (hc : Ints w w.heap.size a cs) (hT : Tab w) :
    Calls Tryd.prog 71 #[.int .i64 (z : Int), .pointer (some ⟨Bx, 0, none⟩), .pointer (some ⟨Bl, 0, none⟩)] w fun e w' => e = .returned (.bool (!propZ cs (z : Int))) ∧ Below w.heap.size w w' := by
  have cx := hx.cell
  have cl := hl.cell
  have HM := Lib.hid (rightP_any a n cs z hcs hn hz w hc hT)
  clear hx hl hc hT
  cases hb : propZ cs (z : Int)
  all_goals
    have HB := Lib.hid hb
    clear hb
    go_enter Tryd.func71, Tryd.ntmps71
    go_wp2_with fail
    refine HM.out.mono ?_
    rintro e w1 ⟨rfl, hb1⟩
    rw [HB.out]
    have HB1 := Lib.hid hb1
    clear hb1
    go_wp2
    go_ret
    exact ⟨rfl, HB1.out⟩

theorem all_noP {cs zs : List Int} {k : Nat} (hk : k < zs.length) (h : propZ cs (zs[k]?.getD 0) = false) : zs.all (propZ cs) = false := by
  rw [List.all_eq_false]
  refine ⟨zs[k], List.getElem_mem hk, ?_⟩
  rw [List.getElem?_eq_getElem hk, Option.getD_some] at h
  simp [h]

theorem all_yesP {cs zs : List Int} (h : ∀ j, j < zs.length → propZ cs (zs[j]?.getD 0) = true) : zs.all (propZ cs) = true := by
  rw [List.all_eq_true]
  intro z hz
  obtain ⟨j, hj, rfl⟩ := List.mem_iff_getElem.1 hz
  have := h j hj
  rwa [List.getElem?_eq_getElem hj, Option.getD_some] at this

set_option maxRecDepth 100000 in
set_option maxHeartbeats 2000000 in
theorem indexP_any (b : Option Addr) (c : Nat) (zs : List Int) (a : Option Addr) (n : Nat) (cs : List Int) (hcs : cs.length = n) (hn : n ≤ 6) (hz : Sets n zs) (hx8 : zs.length ≤ 1048576) (Bx Bl : Nat) (w : World) (hb : Ints w w.heap.size b zs) (hx : Boxed w Bx 66 (.func (.func 49) #[] #[])) (hl : Boxed w Bl 67 (.slice a n n)) (hc : Ints w w.heap.size a cs) (hT : Tab w) :
    Calls Tryd.prog 85 #[.slice b zs.length c, .func (.func 71) #[] #[.pointer (some ⟨Bx, 0, none⟩), .pointer (some ⟨Bl, 0, none⟩)]] w fun e w' =>
      ∃ r : Int, e = .returned (.int .i64 r) ∧ decide (0 ≤ r) = !(zs.all (propZ cs)) ∧ Below w.heap.size w w' := by
  obtain ⟨N, hN⟩ : ∃ N, N = zs.length := ⟨_, rfl⟩
  have HN : Hid (N = zs.length) := Lib.hid hN
  have HI := Lib.hid hb
  have HW : Hid (∀ W (z : Nat), Below w.heap.size w W → z < 2 ^ n → Calls Tryd.prog 71 #[.int .i64 (z : Int), .pointer (some ⟨Bx, 0, none⟩), .pointer (some ⟨Bl, 0, none⟩)] W fun e w' => e = .returned (.bool (!propZ cs (z : Int))) ∧ Below W.heap.size W w') := Lib.hid fun W z h hzz =>
    wrongP_any a n cs z hcs hn hzz Bx Bl W ((h.block _ hx.lt).trans hx) ((h.block _ hl.lt).trans hl) ((hc.below h).mono h.size) (hT.below h hT.lt)
  have HZ := Lib.hid hz
  rw [← hN]
  rw [← hN] at hx8
  clear hN hb hx hl hc hT hz
  go_enter Tryd.func85, Tryd.ntmps85
  go_wp2
  go_loopw [5, 8] (fun _ i wr => ∃ k : Nat, k ≤ N ∧ i = .int .i64 k ∧ Hid ((∀ j, j < k → propZ cs (zs[j]?.getD 0) = true) ∧ Below w.heap.size w wr)) (fun _ i _ => N - (intOf i).toNat)
  case atStart => exact ⟨0, Nat.zero_le _, rfl, Lib.hid ⟨fun j hj => by omega, Below.refl _ _⟩⟩
  case round =>
    obtain ⟨k, hk, rfl, HE⟩ := hrel
    by_cases hlt : k < N
    · have hki : (k : Int) < (N : Int) := by omega
      have hk0 : (0 : Int) ≤ (k : Int) := by omega
      obtain ⟨b1, o1, rfl, hb1, hc⟩ := (HI.out.below HE.out.2).at_ (k := k) (by rw [← HN.out]; exact hlt)
      obtain ⟨z, hzz⟩ : ∃ z : Nat, zs[k]?.getD 0 = (z : Int) := ⟨(zs[k]?.getD 0).toNat, by have := (HZ.out _ (at_in (xs := zs) (k := k) (by rw [← HN.out]; exact hlt))).1; omega⟩
      have hzn : z < 2 ^ n := by
        have := (HZ.out _ (at_in (xs := zs) (k := k) (by rw [← HN.out]; exact hlt))).2
        rw [hzz, Int.toNat_natCast] at this
        exact this
      have HC := Lib.hid (HW.out wr z HE.out.2 hzn)
      have HZZ := Lib.hid hzz
      rw [hzz] at hc
      clear hzz
      cases hf : propZ cs (z : Int)
      · have HF := Lib.hid hf
        clear hf
        go_wp2_with fail
        refine HC.out.mono ?_
        rintro e w3 ⟨rfl, hb3⟩
        rw [HF.out]
        have HB3 := Lib.hid (HE.out.2.trans (hb3.mono HE.out.2.size))
        clear hb3
        go_wp2
        go_ret
        exact ⟨_, rfl, by rw [all_noP (k := k) (by rw [← HN.out]; exact hlt) (by rw [HZZ.out]; exact HF.out)]; simp, HB3.out⟩
      · have HF := Lib.hid hf
        clear hf
        go_wp2_with fail
        refine HC.out.mono ?_
        rintro e w3 ⟨rfl, hb3⟩
        rw [HF.out]
        have HR : Hid ((∀ j, j < k + 1 → propZ cs (zs[j]?.getD 0) = true) ∧ Below w.heap.size w w3) := Lib.hid ⟨fun j hj => by
          rcases Nat.lt_succ_iff_lt_or_eq.1 hj with h | rfl
          · exact HE.out.1 j h
          · rw [HZZ.out]; exact HF.out, HE.out.2.trans (hb3.mono HE.out.2.size)⟩
        clear hb3
        go_wp2
        go_roundw
        case rel => exact ⟨k + 1, by omega, by go_num, HR⟩
        case measure => simp [intOf]; omega
    · obtain rfl : k = N := by omega
      go_wp2
      go_ret
      exact ⟨_, rfl, by rw [all_yesP (by rw [← HN.out]; exact HE.out.1)]; decide, HE.out.2⟩

set_option maxRecDepth 100000 in
set_option maxHeartbeats 1600000 in
theorem containsP_any (b : Option Addr) (c : Nat) (zs : List Int) (a : Option Addr) (n : Nat) (cs : List Int) (hcs : cs.length = n) (hn : n ≤ 6) (hz : Sets n zs) (hx8 : zs.length ≤ 1048576) (Bx Bl : Nat) (w : World) (hb : Ints w w.heap.size b zs) (hx : Boxed w Bx 66 (.func (.func 49) #[] #[])) (hl : Boxed w Bl 67 (.slice a n n)) (hc : Ints w w.heap.size a cs) (hT : Tab w) :
    Calls Tryd.prog 72 #[.slice b zs.length c, .func (.func 71) #[] #[.pointer (some ⟨Bx, 0, none⟩), .pointer (some ⟨Bl, 0, none⟩)]] w fun e w' =>
      e = .returned (.bool (!(zs.all (propZ cs)))) ∧ Below w.heap.size w w' := by
  have H := Lib.hid (indexP_any b c zs a n cs hcs hn hz hx8 Bx Bl w hb hx hl hc hT)
  clear hb hx hl hc hT hcs hz
  go_enter Tryd.func72, Tryd.ntmps72
  go_wp2_with fail
  refine H.out.mono ?_
  rintro e w1 ⟨r, rfl, hr, hb1⟩
  have HR := Lib.hid hr
  have HB := Lib.hid hb1
  clear hr hb1
  by_cases h : 0 ≤ r
  · go_wp2
    go_ret
    exact ⟨by rw [← HR.out, decide_eq_true h]; rfl, HB.out⟩
  · have h' : r < 0 := by omega
    go_wp2
    go_ret
    exact ⟨by rw [← HR.out]; rfl, HB.out⟩

end Go.Proofs.YtphddemilibooaaDoor

/- It is proved what the method and of a naming returns; conditions: those of each statement. -/
namespace Go.Proofs.YtphddemilibooaaDoor
open Go.RowKit Go.Shelf

/-- Numbers as cells. -/
def iv (xs : List Int) : Array Value := (xs.map (Value.int .i64)).toArray

theorem iv_at (xs : List Int) (i : Nat) (h : i < xs.length) : (iv xs)[i]? = some (.int .i64 (xs[i]?.getD 0)) := by simp [iv, h]
/-- Block b holds just these numbers. -/
def Nums (W : World) (b : Nat) (t : TypeId) (xs : List Int) : Prop := HasBlk W b (iv xs) t

theorem Nums.cell {W : World} {b : Nat} {t : TypeId} {xs : List Int} (h : Nums W b t xs) (i : Nat) (hi : i < xs.length) : W.cell? ⟨b, i, none⟩ = some (.int .i64 (xs[i]?.getD 0)) := (blk_cell h i).trans (iv_at xs i hi)
theorem Nums.frozen {W : World} {b : Nat} {t : TypeId} {xs : List Int} (h : Nums W b t xs) (i : Nat) : W.frozen? ⟨b, i, none⟩ = false := blk_frozen h i
theorem Nums.lt {W : World} {b : Nat} {t : TypeId} {xs : List Int} (h : Nums W b t xs) : b < W.heap.size := lt_of_some h
theorem Nums.alloc {W : World} {b : Nat} {t : TypeId} {xs : List Int} (h : Nums W b t xs) (o : Obj) : Nums (W.alloc o) b t xs := HasBlk.alloc h o
theorem Nums.kept {W W' : World} {b : Nat} {t : TypeId} {xs : List Int} {row : Option Nat} (h : Nums W b t xs) (hg : W.grownBy W' row) (hr : row ≠ some b) : Nums W' b t xs := HasBlk.kept h hg hr
theorem Nums.below {W W' : World} {b B : Nat} {t : TypeId} {xs : List Int} (h : Nums W b t xs) (hb : Below B W W') (hB : b < B) : Nums W' b t xs := (hb.block b hB).trans h
theorem Nums.far {W : World} {b : Nat} {t : TypeId} {xs : List Int} (h : Nums W b t xs) {p : Addr} (hp : b ≠ p.block) (u : Value) : Nums (W.setCell p u) b t xs := HasBlk.far h hp u
theorem Nums.set {W : World} {b : Nat} {t : TypeId} {xs : List Int} (h : Nums W b t xs) (i : Nat) (x : Int) : Nums (W.setCell ⟨b, i, none⟩ (.int .i64 x)) b t (xs.set i x) := by
  have := heap_setCell_same W b i (iv xs) t (.int .i64 x) h
  unfold Nums HasBlk
  rw [this]
  simp [iv, List.map_set]

theorem Nums.row {W : World} {b : Nat} {t : TypeId} {xs : List Int} (h : Nums W b t xs) (ys : List Int) : Nums (W.setRow b ((ys.map (Value.int .i64)).toArray)) b t ys := setRow_heap W b (iv xs) _ t _ h
end Go.Proofs.YtphddemilibooaaDoor
