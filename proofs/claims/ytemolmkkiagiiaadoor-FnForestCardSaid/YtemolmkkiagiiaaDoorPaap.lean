/- It is proved what the method without, FamilyLeast and FamilyGreatest of the program return; conditions: those of each statement. -/
import Derived.Test.YtemolmkkiagiiaaDoorRows
import Derived.WalkKit
import Derived.WalkSpells
import Derived.ProofKit
import Derived.OpenShut
import Derived.ShutString
import Derived.ChangeOld
import Derived.Below
import Derived.Deep.RegionHeld3
import Derived.Deep.QuietTactic
import Derived.BigQuiet
import Derived.Lib.Hide
import Derived.Lib.SmallJoins
import Derived.Outline
import Derived.Laws.MakeOwn
import Derived.Laws.OwnMore
import Derived.IntWalk
import Derived.Lib.AppendZeros
import Derived.Maps.AppendAt
import Derived.Deep.AppendLies
import Derived.OwnWalk
import Derived.Lib.SlicesCompact
import Derived.Lib.OwnBridge
import Derived.Shelf.Sort.Plain
import Derived.Shelf.Slices.In.SortNone
import Derived.Shelf.Slices.CompactI
import Derived.Ground.Names2Prog
import Derived.Lib.SliceRun
import Derived.RangeFuncNested
import Derived.RangeFuncBound
import Derived.RangeFuncCalls
import Derived.RangeFuncLeaves
import Derived.RangeFuncBox
import Derived.Shelf.Abstract
import Derived.Shelf.RegionOpen
import Derived.OwnWalkIn
import Derived.TacticsInMore
import Derived.LoopNIn
import Derived.LoopIn
import Derived.Test.YtemolmkkiagiiaaDoorPaaa
import Derived.Test.YtemolmkkiagiiaaDoorPaac
import Derived.Test.YtemolmkkiagiiaaDoorGa
import Derived.Test.YtemolmkkiagiiaaDoorGb
import Derived.Test.YtemolmkkiagiiaaDoorHb
import Derived.Test.YtemolmkkiagiiaaDoorPaan
import Derived.Test.YtemolmkkiagiiaaDoorPaal
import Derived.Test.YtemolmkkiagiiaaDoorHv
import Derived.Test.YtemolmkkiagiiaaDoorPaai
import Derived.Test.YtemolmkkiagiiaaDoorPaab
namespace Go.Proofs.YtemolmkkiagiiaaDoor
open Go.RowKit

/-- The clubs in order, once, that no other one beats. -/
def unbeaten (g : Int → Int → Bool) (zs : List Int) : List Int := (simpZ zs).filter fun z => !beaten g zs z

theorem unbeaten_le (g : Int → Int → Bool) (zs : List Int) : (unbeaten g zs).length ≤ zs.length := Nat.le_trans (List.length_filter_le _ _) (simpZ_le zs)
set_option maxRecDepth 100000 in
set_option maxHeartbeats 800000 in
theorem deleteFunc_nil (cap P Q : Nat) (w : World) :
    Calls Tryd.prog 100 #[.slice none 0 cap, .func (.func 98) #[] #[.pointer (some ⟨P, 0, none⟩), .pointer (some ⟨Q, 0, none⟩)]] w fun e w' => e = .returned (.slice none 0 cap) ∧ w = w' := by
  have hi : Calls Tryd.prog 94 #[.slice none 0 cap, .func (.func 98) #[] #[.pointer (some ⟨P, 0, none⟩), .pointer (some ⟨Q, 0, none⟩)]] w fun e w' => e = .returned (.int .i64 (-1)) ∧ w = w' := by
    go_enter Tryd.func94, Tryd.ntmps94
    go_wp2
    go_loop [5, 8] (fun _ i => i = .int .i64 0) (fun _ _ => 0)
    case atStart => rfl
    case round =>
      obtain rfl := hrel
      go_wp2
      go_ret
      exact ⟨rfl, rfl⟩
  go_enter Tryd.func100, Tryd.ntmps100
  go_wp2_with (go_at_call 94; refine hi.mono ?_; rintro e w' ⟨rfl, rfl⟩)
  go_ret
  exact ⟨rfl, rfl⟩

theorem delete_any (a : Option Addr) (n cap B P Q : Nat) (ys : List Int) (f : Int → Bool) (w : World) (h : OwnN w B a n cap ys) (hn : n ≤ 1048576) (hB : B ≤ w.heap.size)
    (hK : ∀ z W, Below B w W → Calls Tryd.prog 98 #[.int .i64 z, .pointer (some ⟨P, 0, none⟩), .pointer (some ⟨Q, 0, none⟩)] W fun e W' => e = .returned (.bool (f z)) ∧ Below W.heap.size W W') :
    Calls Tryd.prog 100 #[.slice a n cap, .func (.func 98) #[] #[.pointer (some ⟨P, 0, none⟩), .pointer (some ⟨Q, 0, none⟩)]] w fun e w' =>
      e = .returned (.slice a (ys.filter fun z => !f z).length cap) ∧ OwnN w' B a (ys.filter fun z => !f z).length cap (ys.filter fun z => !f z) ∧ w.grownBy w' (Value.slice a n cap).ownBlock := by
  rcases h.2 with ⟨e, h0⟩ | ⟨g, cap', cur, e, _⟩
  · injection e with e1 e2 e3
    subst e1; subst e2; subst e3
    have hz : ys = [] := List.eq_nil_of_length_eq_zero h.len
    subst hz
    refine (deleteFunc_nil 0 P Q w).mono ?_
    rintro e w' ⟨rfl, rfl⟩
    exact ⟨rfl, h, World.grownBy.refl _ _⟩
  · injection e with e1 e2 e3
    subst e1; subst e3
    exact deleteFunc_any g n cap B P Q ys f w h hn hB hK

theorem ownBlock_len {a : Option Addr} {n k cap : Nat} {b : Nat} (h : (Value.slice a n cap).ownBlock ≠ some b) : (Value.slice a k cap).ownBlock ≠ some b := by
  cases a with
  | none => simp [Value.ownBlock]
  | some x => exact h

set_option maxRecDepth 100000 in
set_option maxHeartbeats 3200000 in
theorem without69 (m : Int) (a : Option Addr) (c : Nat) (zs : List Int) (w : World) (ha : Ints w w.heap.size a zs) (hx : zs.length ≤ 1048576) :
    Calls Tryd.prog 89 #[.agg #[.int .i64 m, .slice a zs.length c], .func (.func 90) #[] #[]] w (RetFam w m (unbeaten geG zs)) := by
  have HB0 := Lib.hid (below3 w (.cells #[.int .i64 m, .slice a zs.length c] 25) (.cells #[.func (.func 90) #[] #[]] 84) (.cells #[.int .i64 0, .slice none 0 0] 25))
  have HA := Lib.hid (ha.below HB0.out)
  have HI := Lib.hid ha
  have hmf : ∀ (fn : Fn) (first cap : Array Value) (w : World), (Instr.makeFunc fn first cap).run Tryd.prog w = .ok (.func fn first cap) w := fun _ _ _ _ => rfl
  have hys : (simpZ zs).length ≤ 1048576 := Nat.le_trans (simpZ_le zs) hx
  obtain ⟨W0, HW0⟩ : ∃ W0, Hid (W0 = ((w.alloc (.cells #[.int .i64 m, .slice a zs.length c] 25)).alloc (.cells #[.func (.func 90) #[] #[]] 84)).alloc (.cells #[.int .i64 0, .slice none 0 0] 25)) := ⟨_, Lib.hid rfl⟩
  have hs0 : W0.heap.size = w.heap.size + 3 := by rw [HW0.out]; simp
  have HBW0 : Hid (Below w.heap.size w W0) := Lib.hid (by rw [HW0.out]; exact HB0.out)
  have HP0 : Hid (W0.heap[w.heap.size]? = some (.cells #[.int .i64 m, .slice a zs.length c] 25 (0, 0))) := Lib.hid (by rw [HW0.out]; exact alloc3_0 w _ _ _)
  have HQ0 : Hid (W0.heap[w.heap.size + 1]? = some (.cells #[.func (.func 90) #[] #[]] 84 (0, 0))) := Lib.hid (by rw [HW0.out]; exact alloc3_1 w _ _ _)
  have HR0 : Hid (W0.heap[w.heap.size + 1 + 1]? = some (.cells #[.int .i64 0, .slice none 0 0] 25 (0, 0))) := Lib.hid (by rw [HW0.out]; exact alloc3_2 w _ _ _)
  clear ha
  go_enter Tryd.func89, Tryd.ntmps89
  go_wp2_with fail
  rw [← HW0.out]
  refine (simple_any m a c zs _ ((HI.out.below HBW0.out).mono (by omega)) hx).mono ?_
  rintro e w1 ⟨a1, c1, rfl, ho1, hb1⟩
  have ho1' : OwnN w1 W0.heap.size a1 (simpZ zs).length c1 (simpZ zs) := ho1
  have z1 : W0.heap.size ≤ w1.heap.size := hb1.size
  have HO1 := Lib.hid (World.ownsRow.alloc ho1' (.cells #[.int .i64 m, .slice a1 (simpZ zs).length c1] 25))
  have HN1 := Lib.hid (ho1'.ne (.inr (Nat.le_refl _)))
  have HB1 := Lib.hid (hb1.trans ((below1 w1 (.cells #[.int .i64 m, .slice a1 (simpZ zs).length c1] 25)).mono z1))
  have HX1 := Lib.hid (alloc_new w1 (.cells #[.int .i64 m, .slice a1 (simpZ zs).length c1] 25))
  have hsz1 : (w1.alloc (.cells #[.int .i64 m, .slice a1 (simpZ zs).length c1] 25)).heap.size = w1.heap.size + 1 := by simp
  clear hb1 ho1 ho1'
  go_wp2_with fail
  refine (delete_any a1 (simpZ zs).length c1 W0.heap.size w.heap.size (w.heap.size + 1) (simpZ zs) (beaten geG zs) _ HO1.out hys (by rw [hsz1]; omega) (fun z W hW =>
    have hbW : Below W0.heap.size W0 W := HB1.out.trans hW
    wo69 m a c zs w.heap.size (w.heap.size + 1) z W (((HI.out.below HBW0.out).mono (by omega)).below hbW |>.mono hbW.size) hx
      ((blk_cell ((hbW.block _ (by omega)).trans HP0.out) 0).trans (cell2_0 _ _)) ((blk_cell ((hbW.block _ (by omega)).trans HP0.out) 1).trans (cell2_1 _ _)) ((blk_cell ((hbW.block _ (by omega)).trans HQ0.out) 0).trans (cell1_0 _)))).mono ?_
  rintro e w2 ⟨rfl, ho2, hg2⟩
  have HE : Hid (((simpZ zs).filter fun z => !beaten geG zs z) = unbeaten geG zs) := Lib.hid rfl
  rw [HE.out] at ho2 ⊢
  have HX2 := Lib.hid ((hg2.block _ (lt_of_some HX1.out) (Ne.symm HN1.out)).trans HX1.out)
  have hbb : Below W0.heap.size W0 w2 := HB1.out.grown hg2 (by rw [hsz1]; omega) (fun g e => (World.ownsRow.lt HO1.out g e).1)
  have HB2 := Lib.hid hbb
  have b2 := (hbb.block _ (by omega)).trans HR0.out
  have HO2 := Lib.hid ho2
  have y0 := (blk_cell HX2.out 0).trans (cell2_0 _ _)
  have y1 := (blk_cell HX2.out 1).trans (cell2_1 _ _)
  have yf0 := blk_frozen HX2.out 0
  have yf1 := blk_frozen HX2.out 1
  have d0 := (blk_cell b2 0).trans (cell2_0 _ _)
  have d1 := (blk_cell b2 1).trans (cell2_1 _ _)
  have f0 := blk_frozen b2 0
  have f1 := blk_frozen b2 1
  have z2 : w1.heap.size < w2.heap.size := lt_of_some HX2.out
  clear ho2 hg2 hbb b2 hsz1
  go_wp2
  refine bodyPost_ret (v := .agg #[.int .i64 m, .slice a1 (unbeaten geG zs).length c1]) (by simp [results, Tryd.results89, go_sem, d0, d1]) rfl ?_
  refine ⟨a1, c1, rfl, ?_, ?_⟩
  · have h1 := ownsRow_setCell_ne HO2.out (p := ⟨w1.heap.size, 1, none⟩) (ownBlock_len HN1.out) (.slice a1 (unbeaten geG zs).length c1)
    have h2 := ownsRow_setCell_below (ownsRow_setCell_below h1 (a := ⟨w.heap.size + 1 + 1, 0, none⟩) (by show w.heap.size + 1 + 1 < W0.heap.size; omega) (.int .i64 m)) (a := ⟨w.heap.size + 1 + 1, 1, none⟩) (by show w.heap.size + 1 + 1 < W0.heap.size; omega) (.slice a1 (unbeaten geG zs).length c1)
    exact ownsRow_base h2 (by omega)
  · exact (((HBW0.out.trans (HB2.out.mono (by omega))).setCell (p := ⟨w1.heap.size, 1, none⟩) (by simp; omega) _).setCell (p := ⟨w.heap.size + 1 + 1, 0, none⟩) (by simp; omega) _).setCell (p := ⟨w.heap.size + 1 + 1, 1, none⟩) (by simp; omega) _

end Go.Proofs.YtemolmkkiagiiaaDoor

/- It is proved that least clubs are parts of no other one, and that each club has one of them as a part; conditions: those of each statement. -/
namespace Go.Proofs.YtemolmkkiagiiaaDoor
open Go.RowKit

theorem unbeaten_mem (g : Int → Int → Bool) (zs : List Int) (z : Int) : z ∈ unbeaten g zs ↔ z ∈ zs ∧ beaten g zs z = false := by
  simp [unbeaten, List.mem_filter, simpZ_mem]

theorem unbeaten_asc (g : Int → Int → Bool) (zs : List Int) : Asc (unbeaten g zs) := List.Pairwise.filter _ (simpZ_asc zs)
theorem asc_ne {xs : List Int} (h : Asc xs) {i k : Nat} (hi : i < xs.length) (hk : k < xs.length) (hne : i ≠ k) : xs[i] ≠ xs[k] := by
  have h1 := List.pairwise_iff_getElem.1 h
  rcases Nat.lt_or_gt_of_ne hne with h2 | h2
  · have := h1 i k hi hk h2; omega
  · have := h1 k i hk hi h2; omega

theorem least_apart (zs : List Int) {i k : Nat} (hi : i < (unbeaten leG zs).length) (hk : k < (unbeaten leG zs).length) (hne : i ≠ k) : leG (unbeaten leG zs)[i] (unbeaten leG zs)[k] = false := by
  have h1 := (unbeaten_mem leG zs _).1 (List.getElem_mem hi)
  have h2 := (unbeaten_mem leG zs _).1 (List.getElem_mem hk)
  have h3 := asc_ne (unbeaten_asc leG zs) hi hk hne
  have h4 := List.any_eq_false.1 h2.2 _ h1.1
  simp only [beatBy, Bool.and_eq_true, bne_iff_ne, ne_eq, not_and, Bool.not_eq_true] at h4
  exact h4 h3

set_option maxRecDepth 100000 in
theorem leG_fin : ∀ o : Fin 64, ∀ z : Fin 64, leG (o.val : Int) (z.val : Int) = decide (o.val &&& z.val = o.val) := by decide +kernel

theorem leG_nat (o z : Nat) (ho : o < 64) (hz : z < 64) : leG (o : Int) (z : Int) = decide (o &&& z = o) := leG_fin ⟨o, ho⟩ ⟨z, hz⟩
theorem least_below (zs : List Int) (hz : ∀ z ∈ zs, 0 ≤ z ∧ z < 64) : ∀ (n : Nat) (z : Int), z.toNat = n → z ∈ zs → ∃ o ∈ unbeaten leG zs, leG o z = true := by
  intro n
  induction n using Nat.strongRecOn with
  | _ n ih =>
    intro z hn hm
    have hz1 := hz z hm
    obtain ⟨a, rfl⟩ : ∃ a : Nat, z = (a : Int) := ⟨z.toNat, by omega⟩
    cases hb : beaten leG zs (a : Int)
    · exact ⟨(a : Int), (unbeaten_mem leG zs _).2 ⟨hm, hb⟩, by rw [leG_nat a a (by omega) (by omega)]; simp⟩
    · obtain ⟨o, ho, hbo⟩ := List.any_eq_true.1 hb
      simp only [beatBy, Bool.and_eq_true, bne_iff_ne, ne_eq] at hbo
      have ho1 := hz o ho
      obtain ⟨b, rfl⟩ : ∃ b : Nat, o = (b : Int) := ⟨o.toNat, by omega⟩
      have hab := hbo.2
      rw [leG_nat b a (by omega) (by omega), decide_eq_true_eq] at hab
      have hle : b ≤ a := by rw [← hab]; exact Nat.and_le_right
      have hlt : b < a := by
        have : ¬ b = a := fun e => hbo.1 (by rw [e])
        omega
      obtain ⟨q, hq, hqb⟩ := ih b (by simp at hn; omega) (b : Int) (by simp) ho
      have hq1 := hz q ((unbeaten_mem leG zs _).1 hq).1
      obtain ⟨c, rfl⟩ : ∃ c : Nat, q = (c : Int) := ⟨q.toNat, by omega⟩
      refine ⟨(c : Int), hq, ?_⟩
      rw [leG_nat c b (by omega) (by omega), decide_eq_true_eq] at hqb
      rw [leG_nat c a (by omega) (by omega), decide_eq_true_eq, ← hqb, Nat.and_assoc, hab]

theorem least_under (zs : List Int) (hz : ∀ z ∈ zs, 0 ≤ z ∧ z < 64) (i : Nat) (hi : i < zs.length) : ∃ k, ∃ hk : k < (unbeaten leG zs).length, leG (unbeaten leG zs)[k] zs[i] = true := by
  obtain ⟨o, ho, h⟩ := least_below zs hz _ zs[i] rfl (List.getElem_mem hi)
  obtain ⟨k, hk, rfl⟩ := List.getElem_of_mem ho
  exact ⟨k, hk, h⟩

end Go.Proofs.YtemolmkkiagiiaaDoor
