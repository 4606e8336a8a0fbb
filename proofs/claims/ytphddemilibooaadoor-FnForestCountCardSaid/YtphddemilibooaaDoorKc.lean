/- It is proved what missedBy and coveredBy return, and how a family in a captured variable grows; conditions: those of each statement. -/
import Derived.RowKit
import Derived.Laws.CopyRow
import Derived.Lib.SlBuf
import Derived.Deep.QuietTactic
import Derived.RangeFuncNested
import Derived.RangeFuncBound
import Derived.RangeFuncCalls
import Derived.RangeFuncLeaves
import Derived.RangeFuncBox
import Derived.RangeFuncWrites
import Derived.StillTailTactics
import Derived.Maps.OwnIn
import Derived.Maps.Ext
import Derived.DeepKeys4
import Derived.MapKept
import Derived.Test.YtphddemilibooaaDoorRows
import Derived.WalkKit
import Derived.WalkSpells
import Derived.ProofKit
import Derived.OpenShut
import Derived.ShutString
import Derived.ChangeOld
import Derived.Below
import Derived.Deep.RegionHeld3
import Derived.BigQuiet
import Derived.Lib.Hide
import Derived.Lib.SmallJoins
import Derived.Outline
import Derived.Laws.MakeOwn
import Derived.Laws.OwnMore
import Derived.IntWalk
import Derived.Lib.AppendZeros
import Derived.Maps.AppendAt
import Derived.Deep.AppendLies
import Derived.OwnWalk
import Derived.Lib.SlicesCompact
import Derived.Lib.OwnBridge
import Derived.OrdersIn
import Derived.TacticsIn
import Derived.Shelf.Sort.Plain
import Derived.Shelf.Slices.In.SortNone
import Derived.Shelf.Slices.CompactI
import Derived.Ground.Names2Prog
import Derived.Lib.SliceRun
import Derived.Shelf.Abstract
import Derived.Shelf.RegionOpen
import Derived.OwnWalkIn
import Derived.TacticsInMore
import Derived.LoopNIn
import Derived.LoopIn
import Derived.StillTail
import Derived.StillTactics
import Derived.Shelf.Spec.TrailingZeros
import Derived.Test.YtphddemilibooaaDoorRaal
import Derived.Test.YtphddemilibooaaDoorRaaa
import Derived.Test.YtphddemilibooaaDoorRaac
import Derived.Test.YtphddemilibooaaDoorRaab
import Derived.Test.YtphddemilibooaaDoorRaad
import Derived.Test.YtphddemilibooaaDoorRaam
import Derived.Test.YtphddemilibooaaDoorQj
import Derived.Test.YtphddemilibooaaDoorTb
namespace Go.Proofs.YtphddemilibooaaDoor
open Go.RowKit Go.Shelf

attribute [local go_sem] Oper.semAt_some

/-- A family in a captured variable, its clubs in memory of the call's own. -/
def FamBox (D lo : Nat) (m : Int) (zs : List Int) (W : World) : Prop := ∃ v, HasBlk W D #[.int .i64 m, v] 25 ∧ W.ownsRow lo 3 1 v zs.length (zs.map (Value.int .i64))

theorem hasBlk_not_row {W : World} {B : Nat} {t e : TypeId} {cs : Array Value} (h : HasBlk W B cs t) (hte : t ≠ e) {base size k : Nat} {v : Value} {xs : List Value} (hr : W.ownsRow base e size v k xs) : some B ≠ v.ownBlock := by
  rcases hr.2 with ⟨rfl, _⟩ | ⟨g, cap, cur, rfl, _, hgb, _⟩
  · simp [Value.ownBlock]
  · intro e'
    obtain rfl : B = g := by simpa [Value.ownBlock] using e'
    have := (show W.heap[B]? = _ from h).symm.trans hgb
    simp at this
    exact hte this.2

theorem fam_ne : (25 : TypeId) ≠ 3 := by decide
theorem FamBox.own {β : Type} (D lo : Nat) (m : Int) (f : β → List Int) : Own (fun s W => FamBox D lo m (f s) W) := by
  rintro s X Y row ⟨v, hv, hr⟩ hg hrow
  refine ⟨v, hv.kept hg (fun e' => ?_), hr.kept hg ?_⟩
  · obtain ⟨o, ho, hc⟩ := hrow D e'
    rw [show X.heap[D]? = _ from hv] at ho; cases ho; cases hc
  · rcases hr.2 with ⟨rfl, _⟩ | ⟨g, cap, cur, rfl, _, hgb, _⟩
    · exact .inl rfl
    · refine .inr fun e' => ?_
      obtain ⟨o, ho, hc⟩ := hrow g (by simpa [Value.ownBlock] using e'.symm)
      rw [hgb] at ho; cases ho; cases hc

theorem set2_1 (m v v' : Value) : (#[m, v] : Array Value).setIfInBounds 1 v' = #[m, v'] := rfl
theorem FamBox.set {W : World} {D lo : Nat} {m : Int} {zs : List Int} {v v' : Value} (h : HasBlk W D #[.int .i64 m, v] 25) (hr : W.ownsRow lo 3 1 v' zs.length (zs.map (Value.int .i64))) : FamBox D lo m zs (W.setCell ⟨D, 1, none⟩ v') := by
  refine ⟨v', ?_, ?_⟩
  · have := heap_setCell_same W D 1 #[.int .i64 m, v] 25 v' h
    rw [set2_1] at this
    exact this
  · exact ownsRow_setCell_ne hr (by exact (hasBlk_not_row h fam_ne hr).symm) v'

/-- What a store back of a longer list leaves. -/
theorem FamBox.appended {W w1 : World} {D lo : Nat} {m : Int} {zs : List Int} {x : Int} {v v' : Value} {tmp : Obj} (hv : HasBlk W D #[.int .i64 m, v] 25) (hr : W.ownsRow lo 3 1 v zs.length (zs.map (Value.int .i64))) (hlo : lo ≤ W.heap.size) (hD : lo ≤ D)
    (hown : w1.ownsRow lo 3 1 v' (zs.length + 1) (zs.map (Value.int .i64) ++ [.int .i64 x])) (hgrow : (W.alloc tmp).grownBy w1 v.ownBlock) :
    HasBlk w1 D #[.int .i64 m, v] 25 ∧ FamBox D lo m (zs ++ [x]) (w1.setCell ⟨D, 1, none⟩ v') ∧ KeepsOthers W (w1.setCell ⟨D, 1, none⟩ v') ∧ Below lo W (w1.setCell ⟨D, 1, none⟩ v') := by
  have hv1 : HasBlk w1 D #[.int .i64 m, v] 25 := (hv.alloc tmp).kept hgrow (hasBlk_not_row hv fam_ne hr).symm
  refine ⟨hv1, FamBox.set hv1 (by rw [List.length_append, List.map_append]; exact hown), ?_, ?_⟩
  · refine ((KeepsOthers.alloc W tmp).trans (KeepsOthers.of_grownBy hgrow fun j o ej hj => ?_)).trans (KeepsOthers.setCell _ _ _)
    rcases (hr.alloc tmp).2 with ⟨rfl, _⟩ | ⟨g, cap, cur, rfl, _, hgb, _⟩
    · simp [Value.ownBlock] at ej
    · obtain rfl : g = j := by simpa [Value.ownBlock] using ej
      rw [hgb] at hj; cases hj; rfl
  · refine (((Below.refl lo W).alloc hlo tmp).grown hgrow (by simp; omega) fun j ej => ?_).setCell (p := ⟨D, 1, none⟩) hD v'
    rcases hr.2 with ⟨rfl, _⟩ | ⟨g, cap, cur, rfl, hb, _, _⟩
    · simp [Value.ownBlock] at ej
    · obtain rfl : g = j := by simpa [Value.ownBlock] using ej
      exact hb

theorem FamBox.alloc {W : World} {D lo : Nat} {m : Int} {zs : List Int} (h : FamBox D lo m zs W) (o : Obj) : FamBox D lo m zs (W.alloc o) := by
  obtain ⟨v, h1, h2⟩ := h
  exact ⟨v, h1.alloc o, h2.alloc o⟩

theorem FamBox.below {W W' : World} {D lo : Nat} {m : Int} {zs : List Int} (h : FamBox D lo m zs W) (hb : Below W.heap.size W W') : FamBox D lo m zs W' := by
  obtain ⟨v, h1, h2⟩ := h
  exact ⟨v, (hb.block _ (lt_of_some h1)).trans h1, ownsRow_below h2 hb⟩

/-- A new family in a captured variable, without clubs. -/
theorem FamBox.start (W : World) (lo : Nat) (m : Int) : FamBox W.heap.size lo m [] (W.alloc (.cells #[.int .i64 m, .slice none 0 0] 25)) :=
  ⟨_, alloc_new W _, World.ownsRow_nil _ _ _ _⟩

theorem obj_ne {cs cs' : Array Value} {t : TypeId} {z z' : Nat × Nat} (h : t ≠ 3) : Obj.cells cs t z ≠ Obj.cells cs' 3 z' := fun e => by injection e with _ e; exact h e
theorem HasBlk.butF {lo D l b : Nat} {A B : World} {cs : Array Value} {t : TypeId} (h : HasBlk A b cs t) (hb : ButF lo D l A B) (h1 : b ≠ l) (h2 : b ≠ D) (h3 : t ≠ 3) : HasBlk B b cs t := hb.keep h h1 h2 (fun _ _ _ => obj_ne h3)
theorem club_ne3 : (37 : TypeId) ≠ 3 := by decide
/-- The clubs that have no member in a set. -/
def missL (zs : List Int) (s : Nat) : List Int := zs.filter fun z => z.toNat &&& s == 0

theorem missL_snoc (zs : List Int) (z : Int) (s : Nat) : missL (zs ++ [z]) s = missL zs s ++ if z.toNat &&& s = 0 then [z] else [] := by
  rw [missL, List.filter_append]
  by_cases h : z.toNat &&& s = 0 <;> simp [missL, h]

theorem missL_len (zs : List Int) (s : Nat) : (missL zs s).length ≤ zs.length := List.length_filter_le _ _
theorem missL_cov (zs : List Int) (s : Nat) : ((missL zs s).length == 0) = covB zs s := by
  rw [Bool.eq_iff_iff, beq_iff_eq, List.length_eq_zero_iff, missL, List.filter_eq_nil_iff, covB_iff]
  simp

/-- Clubs are sets of m members, whatever their number. -/
def Sets (m : Nat) (zs : List Int) : Prop := ∀ z ∈ zs, 0 ≤ z ∧ z.toNat < 2 ^ m

def IsSet (m : Nat) (p : Nat × Int) : Prop := 0 ≤ p.2 ∧ p.2.toNat < 2 ^ m
theorem Sets.at_ {m : Nat} {zs : List Int} (h : Sets m zs) : ∀ k, k < zs.length → IsSet m (k, zs[k]?.getD 0) := fun k hk => by
  rw [List.getElem?_eq_getElem hk]
  exact h _ (List.getElem_mem hk)

theorem sets_of_fam {m : Nat} {zs : List Int} (h : famIn (m : Int) zs = true) : Sets m zs := fun z hz => by
  obtain ⟨h1, h2, -, h4⟩ := famIn_out h
  have := h4 z hz
  unfold fullI at this
  rw [Int.toNat_natCast] at this
  have e : (2 : Int) ^ m = ((2 ^ m : Nat) : Int) := by norm_cast
  omega

def sndL {m : Nat} (ys : List { p // IsSet m p }) : List Int := ys.map (·.1.2)
theorem sndL_snoc {m : Nat} (ys : List { p // IsSet m p }) (y : { p // IsSet m p }) : sndL (ys ++ [y]) = sndL ys ++ [y.1.2] := by simp [sndL]
theorem sndL_all {m : Nat} {zs : List Int} {ys : List { p // IsSet m p }} (h : ys.map (·.1) = pairs zs zs.length) : sndL ys = zs := by
  have := congrArg (List.map (·.2)) h
  rw [pairs_all, List.map_map] at this
  exact this

theorem sndL_len {m : Nat} (ys : List { p // IsSet m p }) : (sndL ys).length = ys.length := by simp [sndL]
set_option maxRecDepth 100000 in
set_option maxHeartbeats 4000000 in
theorem missedBy_any (m : Nat) (hm : m ≤ 6) (a : Option Addr) (c : Nat) (zs : List Int) (s : Nat) (hs : s < 64) (w : World) (ha : Ints w w.heap.size a zs) (hx : zs.length ≤ 100000) (hz : Sets m zs) :
    Calls Tryd.prog 115 #[.agg #[.int .i64 (m : Int), .slice a zs.length c], .int .i64 (s : Int)] w (RetFam w (m : Int) (missL zs s)) := by
  obtain ⟨i0, hi, hz0, hz1, hz2⟩ := info_parts Tryd.info3
  have h16 : 1 ≤ 6 := by omega
  have HA := Lib.hid ha
  obtain ⟨W3, hW3, q0, q1, q2, hs3, hb3⟩ : ∃ W3, ((w.alloc (.cells #[.int .i64 (m : Int), .slice a zs.length c] 25)).alloc (.cells #[.int .i64 (s : Int)] 37)).alloc (.cells #[.int .i64 0, .slice none 0 0] 25) = W3 ∧ HasBlk W3 w.heap.size #[.int .i64 (m : Int), .slice a zs.length c] 25 ∧ HasBlk W3 (w.heap.size + 1) #[.int .i64 (s : Int)] 37 ∧ HasBlk W3 (w.heap.size + 1 + 1) #[.int .i64 0, .slice none 0 0] 25 ∧ W3.heap.size = w.heap.size + 1 + 1 + 1 ∧ Below w.heap.size w W3 :=
    ⟨_, rfl, alloc3_0 w _ _ _, alloc3_1 w _ _ _, alloc3_2 w _ _ _, by simp, below3 w _ _ _⟩
  obtain ⟨W4, hW4, r4, p0, hs4, hb4⟩ : ∃ W4, W3.alloc (.cells #[.int .i64 (m : Int), .slice none 0 0] 25) = W4 ∧ FamBox W3.heap.size w.heap.size (m : Int) [] W4 ∧ HasBlk W4 w.heap.size #[.int .i64 (m : Int), .slice a zs.length c] 25 ∧ W4.heap.size = W3.heap.size + 1 ∧ Below W3.heap.size W3 W4 :=
    ⟨_, rfl, FamBox.start W3 w.heap.size _, HasBlk.alloc q0 _, by simp, below1 W3 _⟩
  obtain ⟨W5, hW5, r5, hs5, hb5⟩ : ∃ W5, W4.alloc (.cells #[.int .i64 (m : Int), .slice a zs.length c] 25) = W5 ∧ HasBlk W5 W4.heap.size #[.int .i64 (m : Int), .slice a zs.length c] 25 ∧ W5.heap.size = W4.heap.size + 1 ∧ Below W4.heap.size W4 W5 :=
    ⟨_, rfl, alloc_new W4 _, by simp, below1 W4 _⟩
  have hb5 := hb4.trans (hb5.mono (show W3.heap.size ≤ W4.heap.size by omega))
  have r4 : FamBox W3.heap.size w.heap.size (m : Int) [] W5 := by rw [← hW5]; exact r4.alloc _
  have x0 := (blk_cell q0 0).trans (cell2_0 _ _)
  have x1 := (blk_cell q0 1).trans (cell2_1 _ _)
  have y0 := (blk_cell p0 0).trans (cell2_0 _ _)
  have y1 := (blk_cell p0 1).trans (cell2_1 _ _)
  have HB5 := Lib.hid (hb3.trans (hb5.mono (by omega)))
  have Q1 : Hid (HasBlk W5 (w.heap.size + 1) #[.int .i64 (s : Int)] 37) := Lib.hid ((hb5.block _ (by omega)).trans q1)
  have Q2 : Hid (HasBlk W5 (w.heap.size + 1 + 1) #[.int .i64 0, .slice none 0 0] 25) := Lib.hid ((hb5.block _ (by omega)).trans q2)
  have HR4 := Lib.hid r4
  have HS5 := Lib.hid hs5
  have HS3 := Lib.hid hs3
  rw [hs4] at r5
  have hst := clubsP_stops (IsSet m) (6 - 1) (by omega) (W3.heap.size + 1) w.heap.size a c zs (by omega) hz.at_ W5 (by omega) (by omega) ((blk_cell r5 1).trans (cell2_1 _ _)) (ha.below HB5.out)
  have HST := Lib.hid hst
  have HW5 := Lib.hid hW5
  have HS4 := Lib.hid hs4
  have HW4 := Lib.hid hW4
  rw [← hW4] at y0 y1
  clear hW4 ha q0 q1 q2 hs3 hb3 r4 r5 hs5 hb5 hst hW5 p0 hb4 hs4
  refine (callsIn_wide (n := 6)).1 ?_
  refine callsIn_of_wp_marks Tryd.func115 rfl trivial ?_ rfl
  simp only [Tryd.ntmps115, List.size_toArray, List.length_cons, List.length_nil, Nat.reduceAdd, Nat.reduceSub, Array.replicate_succ, Array.replicate_zero, List.push_toArray, List.append_toArray, List.nil_append, List.cons_append]
  gi_wp2_with (refine ⟨trivial, ?_⟩; gi_at_call 37; refine (callsIn_wide.2 (clubs_any _ _ _ _ _)).mono ?_; rintro e w' ⟨rfl, rfl⟩)
  rw [HW4.out, HW5.out]
  refine wpIn_rangeFunc_ownG rfl h16 (gf := 63) (lb := #[.pointer (some ⟨W3.heap.size + 1, 0, none⟩)]) rfl trivial (enters_of Tryd.func63 (by kernel_rfl) rfl)
    HST.out belowK_t (belowK_b (by have := HS5.out; have := HS4.out; have := HS3.out; omega)) (Below.refl _ _) (fun _ => rfl)
    (fun pre W => (FamBox W3.heap.size w.heap.size (m : Int) (missL (sndL pre) s) W ∧ HasBlk W (w.heap.size + 1) #[.int .i64 (s : Int)] 37 ∧ HasBlk W (w.heap.size + 1 + 1) #[.int .i64 0, .slice none 0 0] 25) ∧ Below w.heap.size w W)
    (fun _ _ _ => False)
    (OwnFrom.and (OwnFrom.and (Own.from (FamBox.own _ _ _ (fun pre : List { p // IsSet m p } => missL (sndL pre) s)) _) (OwnFrom.and (Own.from (hasBlk_own _ _ _) _) (Own.from (hasBlk_own _ _ _) _))) (ownFrom_below (Nat.le_refl _) (by have := HS5.out; have := HS4.out; have := HS3.out; omega)))
    (fun _ _ _ _ _ hs _ _ => hs)
    ⟨⟨HR4.out, Q1.out, Q2.out⟩, HB5.out⟩
    (fun x => { tmps := #[.agg #[.int .i64 (m : Int), .slice a zs.length c], .int .i64 (s : Int), .pointer (some ⟨w.heap.size, 0, none⟩), .pointer (some ⟨w.heap.size + 1, 0, none⟩), .pointer (some ⟨w.heap.size + 1 + 1, 0, none⟩), .pointer (some ⟨W3.heap.size, 0, none⟩), undef, .int .i64 x.1.2, .pointer (some ⟨w.heap.size, 0, none⟩), .int .i64 (m : Int), .agg #[.int .i64 (m : Int), .slice none 0 0], .agg #[.int .i64 (m : Int), .slice a zs.length c], .func (.func 63) #[] #[.pointer (some ⟨W3.heap.size + 1, 0, none⟩)], .int .i64 (x.1.1 : Int), .int .i64 x.1.2, undef, undef, undef, undef, undef, undef, undef, undef, undef, undef, undef], defers := [] }) ?assign ?body ?done ?stop
  case assign =>
    intro l x W K hK
    gi_wp2
    exact hK
  case body =>
    rintro l pre ⟨⟨xi, xz⟩, hx0, hx1⟩ W ⟨⟨⟨v, hv, hrow⟩, q1, q2⟩, hB⟩ hlt
    dsimp only at hx0 hx1
    obtain ⟨z, rfl⟩ : ∃ z : Nat, xz = (z : Int) := ⟨xz.toNat, by omega⟩
    obtain ⟨x, hxx⟩ : ∃ x : { p // IsSet m p }, x = ⟨(xi, (z : Int)), hx0, hx1⟩ := ⟨_, rfl⟩
    have hxz : x.1.2 = (z : Int) := by rw [hxx]
    have hz64 : z < 64 := by
      have := Nat.pow_le_pow_right (n := 2) (by decide) hm
      rw [Int.toNat_natCast] at hx1
      omega
    have HSN : Hid (missL (sndL (pre ++ [x])) s = missL (sndL pre) s ++ if z &&& s = 0 then [(z : Int)] else []) := Lib.hid (by
      rw [sndL_snoc, missL_snoc, hxz, Int.toNat_natCast])
    have hlen : (missL (sndL pre) s).length ≤ 100000 := by
      have := missL_len (sndL pre) s
      rw [sndL_len] at this
      omega
    have c0 := (blk_cell q1 0).trans (cell1_0 _)
    have d1 := (blk_cell hv 1).trans (cell2_1 _ _)
    have f1 := blk_frozen hv 1
    have HV := Lib.hid hv
    have HR := Lib.hid hrow
    have HB := Lib.hid hB
    have HQ1 := Lib.hid q1
    have HQ2 := Lib.hid q2
    have HS : Hid (w.heap.size ≤ W.heap.size) := Lib.hid hB.size
    dsimp only
    rw [← hxx]
    clear hv hrow hB q1 q2 hxz hxx
    by_cases hm0 : z &&& s = 0
    · have HSN2 : Hid (missL (sndL (pre ++ [x])) s = missL (sndL pre) s ++ [(z : Int)]) := Lib.hid (by rw [HSN.out, if_pos hm0])
      have HM : Hid ((!decide (z &&& s = 0)) = false) := Lib.hid (by simp [hm0])
      clear hm0
      gi_wp2_with (first
        | (refine ⟨trivial, ?_⟩; gi_at_call 61; refine (CallsIn.inRound l (callsIn_wide.2 (meets_any z s hz64 hs _))).mono ?_; rintro e w' ⟨rfl, rfl⟩; rw [HM.out])
        | (gi_at_builtin; refine wpListIn_append_own _ rfl _ _ 23 rfl w.heap.size 3 i0 (.int .i64 0) 1 8 Tryd.underlying23 hi hz0 hz1 hz2 rfl (by decide) _ _ _ rfl (HR.out.alloc _) ⟨W.heap.size, 0, none⟩ 1 1 [.int .i64 (z : Int)] rfl rfl (cell_one_new _ _ _) (by simp [Value.oneCell']) (by simp only [maxLen]; omega) (by omega) (by have := HS.out; simp; omega) ?_; intro v' w1 hown' hgrow _; obtain ⟨g', cap', rfl⟩ := ownsRow_succ hown'; obtain ⟨hv1, hv2, hk2, hb2⟩ := FamBox.appended HV.out HR.out HS.out (by have := HS3.out; omega) hown' hgrow; have hc1 := (blk_cell hv1 1).trans (cell2_1 _ _); have hf1 := blk_frozen hv1 1; have hbf := ButF.append (v' := .slice (some ⟨g', 0, none⟩) ((missL (sndL pre) s).length + 1) cap') (D := W3.heap.size) 1 HR.out hgrow))
      exact ⟨hk2.from _, hb2, ⟨by rw [HSN2.out]; exact hv2, HQ1.out.butF hbf (by have := HS3.out; omega) (by have := HS3.out; omega) club_ne3, HQ2.out.butF hbf (by have := HS3.out; omega) (by have := HS3.out; omega) fam_ne⟩, HB.out.trans hb2⟩
    · have HSN2 : Hid (missL (sndL (pre ++ [x])) s = missL (sndL pre) s) := Lib.hid (by rw [HSN.out, if_neg hm0, List.append_nil])
      have HM : Hid ((!decide (z &&& s = 0)) = true) := Lib.hid (by simp [hm0])
      clear hm0
      gi_wp2_with (refine ⟨trivial, ?_⟩; gi_at_call 61; refine (CallsIn.inRound l (callsIn_wide.2 (meets_any z s hz64 hs _))).mono ?_; rintro e w' ⟨rfl, rfl⟩; rw [HM.out])
      exact ⟨(KeepsOthers.refl _).from _, Below.refl _ _, ⟨⟨_, HV.out, by rw [HSN2.out]; exact HR.out⟩, HQ1.out, HQ2.out⟩, HB.out⟩
  case done =>
    rintro E ys W hE hys ⟨⟨⟨v, hv, hrow⟩, q1, q2⟩, hB⟩ hK
    rw [sndL_all hys] at hrow
    obtain ⟨ga, gc, rfl⟩ := slice_form hrow
    have d0 := (blk_cell hv 0).trans (cell2_0 _ _)
    have d1 := (blk_cell hv 1).trans (cell2_1 _ _)
    have e0 := (blk_cell q2 0).trans (cell2_0 _ _)
    have e1 := (blk_cell q2 1).trans (cell2_1 _ _)
    have f0 := blk_frozen q2 0
    have f1 := blk_frozen q2 1
    have HR := Lib.hid hrow
    have HB := Lib.hid hB
    have HEs : Hid (w.heap.size ≤ E) := Lib.hid (by have := HS5.out; have := HS4.out; have := HS3.out; omega)
    have hb2 : HasBlk ((W.setCell ⟨w.heap.size + 1 + 1, 0, none⟩ (.int .i64 (m : Int))).setCell ⟨w.heap.size + 1 + 1, 1, none⟩ (.slice ga (missL zs s).length gc)) (w.heap.size + 1 + 1) #[.int .i64 (m : Int), .slice ga (missL zs s).length gc] 25 := HasBlk.set2 q2 _ _
    have hK2 := (KeepsOthers.setCell (W.setCell ⟨w.heap.size + 1 + 1, 0, none⟩ (.int .i64 (m : Int))) ⟨w.heap.size + 1 + 1, 1, none⟩ (.slice ga (missL zs s).length gc)).same E _ ((KeepsOthers.setCell W ⟨w.heap.size + 1 + 1, 0, none⟩ (.int .i64 (m : Int))).same E _ hK rfl) rfl
    have hne : w.heap.size + 1 + 1 ≠ E := fun e => by subst e; rw [show W.heap[w.heap.size + 1 + 1]? = _ from q2] at hK; cases hK
    have HB2 : Hid (HasBlk (((W.setCell ⟨w.heap.size + 1 + 1, 0, none⟩ (.int .i64 (m : Int))).setCell ⟨w.heap.size + 1 + 1, 1, none⟩ (.slice ga (missL zs s).length gc)).putObj E (.deferred none)) (w.heap.size + 1 + 1) #[.int .i64 (m : Int), .slice ga (missL zs s).length gc] 25) := Lib.hid ((World.putObj_heap_other (by first | exact hne | exact Ne.symm hne)).trans hb2)
    have g0 := (blk_cell HB2.out 0).trans (cell2_0 _ _)
    have g1 := (blk_cell HB2.out 1).trans (cell2_1 _ _)
    have HK2 := Lib.hid hK2
    have HQ2 := Lib.hid q2
    have HV := Lib.hid hv
    clear hv hrow hB q1 q2 hb2 hK2 hK
    gi_wp2
    refine ⟨by simp, .inl ⟨_, _, rfl, run_takeDeferred HK2.out, ?_⟩⟩
    refine ⟨.agg #[.int .i64 (m : Int), .slice ga (missL zs s).length gc], by simp [results, Tryd.f115, go_sem, g0, g1], ga, gc, rfl, ?_, ?_⟩
    · have h1 := ownsRow_setCell_ne HR.out (p := ⟨w.heap.size + 1 + 1, 0, none⟩) (hasBlk_not_row HQ2.out fam_ne HR.out).symm (.int .i64 (m : Int))
      have h2 := ownsRow_setCell_ne h1 (p := ⟨w.heap.size + 1 + 1, 1, none⟩) (hasBlk_not_row HQ2.out fam_ne HR.out).symm (.slice ga (missL zs s).length gc)
      exact ownsRow_putObj h2 _ HK2.out rfl
    · exact ((HB.out.setCell (p := ⟨w.heap.size + 1 + 1, 0, none⟩) (by simp; omega) _).setCell (p := ⟨w.heap.size + 1 + 1, 1, none⟩) (by simp; omega) _).trans (belowK_b (w := w) (Nat.le_refl _) _ E _ _ HEs.out HK2.out rfl rfl)
  case stop =>
    rintro D c pre W _ _ h _
    exact h.elim

end Go.Proofs.YtphddemilibooaaDoor
