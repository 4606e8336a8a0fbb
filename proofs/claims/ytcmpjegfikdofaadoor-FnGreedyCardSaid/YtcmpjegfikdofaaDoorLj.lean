/- It is proved what grownBy of the program returns; conditions: those of each statement. -/
import Derived.RowKit
import Derived.Laws.CopyRow
import Derived.Lib.SlBuf
import Derived.Deep.QuietTactic
import Derived.RangeFuncNested
import Derived.RangeFuncBound
import Derived.RangeFuncCalls
import Derived.RangeFuncLeaves
import Derived.RangeFuncBox
import Derived.RangeFuncWrites
import Derived.StillTailTactics
import Derived.Maps.OwnIn
import Derived.Maps.Ext
import Derived.DeepKeys4
import Derived.MapKept
import Derived.Test.YtcmpjegfikdofaaDoorRows
import Derived.WalkKit
import Derived.WalkSpells
import Derived.ProofKit
import Derived.OpenShut
import Derived.ShutString
import Derived.ChangeOld
import Derived.Below
import Derived.Deep.RegionHeld3
import Derived.BigQuiet
import Derived.Lib.Hide
import Derived.Lib.SmallJoins
import Derived.Outline
import Derived.Laws.MakeOwn
import Derived.Laws.OwnMore
import Derived.IntWalk
import Derived.Maps.AppendAt
import Derived.Lib.AppendZeros
import Derived.Deep.AppendLies
import Derived.OwnWalk
import Derived.Lib.SlicesCompact
import Derived.Lib.OwnBridge
import Derived.OrdersIn
import Derived.TacticsIn
import Derived.Shelf.Sort.Plain
import Derived.Shelf.Slices.In.SortNone
import Derived.Shelf.Slices.CompactI
import Derived.Ground.Names2Prog
import Derived.Lib.SliceRun
import Derived.Shelf.Abstract
import Derived.Shelf.RegionOpen
import Derived.OwnWalkIn
import Derived.TacticsInMore
import Derived.LoopNIn
import Derived.LoopIn
import Derived.StillTail
import Derived.StillTactics
import Derived.Shelf.Spec.TrailingZeros
import Derived.Test.YtcmpjegfikdofaaDoorMrar
import Derived.Test.YtcmpjegfikdofaaDoorMraa
import Derived.Test.YtcmpjegfikdofaaDoorMraf
import Derived.Test.YtcmpjegfikdofaaDoorMrag
import Derived.Test.YtcmpjegfikdofaaDoorHd
import Derived.Test.YtcmpjegfikdofaaDoorKa
import Derived.Test.YtcmpjegfikdofaaDoorKc
import Derived.Test.YtcmpjegfikdofaaDoorKh
import Derived.Test.YtcmpjegfikdofaaDoorLi
import Derived.Test.YtcmpjegfikdofaaDoorMraj
import Derived.Test.YtcmpjegfikdofaaDoorMrat
import Derived.Test.YtcmpjegfikdofaaDoorMrab
import Derived.Test.YtcmpjegfikdofaaDoorMrao
import Derived.Test.YtcmpjegfikdofaaDoorMrap
import Derived.Test.YtcmpjegfikdofaaDoorMrac
namespace Go.Proofs.YtcmpjegfikdofaaDoor
open Go.RowKit Go.Shelf

attribute [local go_sem] Oper.semAt_some

theorem arr9 (l : Array Bool) (h : l.size = 9) : ∃ l0 l1 l2 l3 l4 l5 l6 l7 l8, l = #[l0, l1, l2, l3, l4, l5, l6, l7, l8] := by
  obtain ⟨L⟩ := l
  match L, h with
  | [l0, l1, l2, l3, l4, l5, l6, l7, l8], _ => exact ⟨_, _, _, _, _, _, _, _, _, rfl⟩

theorem wpListIn_append_run {F : Fence} {n : Nat} {P : Program} {w : World} {ops : Array Oper} {rest : List Oper} {o : Oper} {a : Act} {Q : Exit → Act → World → Prop}
    (hg : o.guard = none) (s x : Operand) (t tn : TypeId) (hop : o.op = Op.call { callee := Callee.builtin Builtin.append, args := #[s, x], argTypes := #[t, tn] }) (vs vx : Value) (hs : a.eval s = vs) (hx : a.eval x = vx)
    {v' : Value} {w' : World} (hrun : (Builtin.append_ #[t, tn] o.type #[vs, vx]).run P w = .ok v' w') (hK : wpListIn F n P ops Q rest (a.put o.dst v') w') : wpListIn F n P ops Q (o :: rest) a w := by
  refine wpListIn_plain hg fun K hK' => ?_
  unfold Oper.wpIn
  refine ⟨?_, ?_⟩
  · simp [Oper.about, hop, resolve, Target.leads, Sem.run_pure]
  · rw [Oper.semAt_plain F _ _ (by rw [hop]; intro c hc'; cases hc')]
    simp [execOp, hop, resolve, invoke, builtin, hs, hx, hrun, Result.andThen]
    exact hK' _ _ hK

theorem appW_run {W : World} {lo n : Nat} {v : Value} {xs : List Int} (h : W.ownsRow lo 3 1 v n (xs.map (Value.int .i64))) (hlo : lo ≤ W.heap.size) (hn : n ≤ 100000) (x : Int) :
    ∃ v' w1, (Builtin.append_ #[23, 23] 23 #[v, .slice (some ⟨W.heap.size, 0, none⟩) 1 1]).run Tryd.prog (W.alloc (.cells #[.int .i64 x] 3)) = .ok v' w1 ∧ w1.ownsRow lo 3 1 v' (n + 1) (xs.map (Value.int .i64) ++ [.int .i64 x]) ∧ (W.alloc (.cells #[.int .i64 x] 3)).grownBy w1 v.ownBlock := by
  obtain ⟨i0, hi0, hz0, hz1, hz2⟩ := info_parts Tryd.info3
  have hnb := alloc_new W (.cells #[.int .i64 x] 3)
  have hsz : (W.alloc (.cells #[.int .i64 x] 3)).heap.size = W.heap.size + 1 := by simp
  obtain ⟨v', w1, hr, h2, h3, _⟩ := run_append_own (P := Tryd.prog) (W.alloc (.cells #[.int .i64 x] 3)) lo 23 23 3 i0 (.int .i64 0) 1 8 Tryd.underlying23 hi0 hz0 hz1 hz2 rfl (by decide) v n _ (World.ownsRow.alloc h _) ⟨W.heap.size, 0, none⟩ 1 1 [.int .i64 x] (by simp)
    (fun j u hu => by
      have hj : j = 0 := by have := (List.getElem?_eq_some_iff.1 hu).1; simpa using this
      subst hj
      simp at hu
      subst hu
      exact blk_cell hnb 0) (by simp [Value.oneCell']) (by simp only [maxLen]; omega) (by omega) (by omega)
  exact ⟨v', w1, hr, h2, h3⟩

/-- The sets that a set and some members make. -/
def rowU {m : Nat} (z : Nat) (us : List (Mem m)) : List Int := us.map fun y => ((z ||| 2 ^ y.1 : Nat) : Int)

theorem rowU_snoc {m : Nat} (z : Nat) (us : List (Mem m)) (y : Mem m) : rowU z (us ++ [y]) = rowU z us ++ [((z ||| 2 ^ y.1 : Nat) : Int)] := by simp [rowU]
theorem rowU_len {m : Nat} (z : Nat) (us : List (Mem m)) : (rowU z us).length = us.length := by simp [rowU]
theorem growL_snoc {m : Nat} (L : List Int) (x : Int) (s : Nat) (us : List (Mem m)) (h : us.map (·.1) = mem s) : growL (L ++ [x]) (s : Int) = growL L (s : Int) ++ rowU x.toNat us := by
  unfold growL rowU
  rw [List.flatMap_append, List.flatMap_singleton, Int.toNat_natCast, ← h, List.map_map]
  rfl

set_option maxRecDepth 100000 in
set_option maxHeartbeats 8000000 in
theorem grownBy_any (m : Nat) (hm : m ≤ 6) (a : Option Addr) (c : Nat) (zs : List Int) (s : Nat) (hs : s < 2 ^ m) (w : World) (hT : Tab w) (ha : Ints w w.heap.size a zs) (hx : zs.length ≤ 10000) (hz : Sets m zs) :
    Calls Tryd.prog 103 #[.agg #[.int .i64 (m : Int), .slice a zs.length c], .int .i64 (s : Int)] w (RetFam w (m : Int) (growL zs (s : Int))) := by
  obtain ⟨i0, hi, hz0, hz1, hz2⟩ := info_parts Tryd.info3
  have h16 : 1 ≤ 6 := by omega
  have HA := Lib.hid ha
  have HT := Lib.hid hT
  clear hT
  obtain ⟨W3, hW3, q0, q1, q2, hs3, hb3⟩ : ∃ W3, ((w.alloc (.cells #[.int .i64 (m : Int), .slice a zs.length c] 25)).alloc (.cells #[.int .i64 (s : Int)] 50)).alloc (.cells #[.int .i64 0, .slice none 0 0] 25) = W3 ∧ HasBlk W3 w.heap.size #[.int .i64 (m : Int), .slice a zs.length c] 25 ∧ HasBlk W3 (w.heap.size + 1) #[.int .i64 (s : Int)] 50 ∧ HasBlk W3 (w.heap.size + 1 + 1) #[.int .i64 0, .slice none 0 0] 25 ∧ W3.heap.size = w.heap.size + 1 + 1 + 1 ∧ Below w.heap.size w W3 :=
    ⟨_, rfl, alloc3_0 w _ _ _, alloc3_1 w _ _ _, alloc3_2 w _ _ _, by simp, below3 w _ _ _⟩
  obtain ⟨W4, hW4, r4, p0, hs4, hb4⟩ : ∃ W4, W3.alloc (.cells #[.int .i64 (m : Int), .slice none 0 0] 25) = W4 ∧ FamBox W3.heap.size w.heap.size (m : Int) [] W4 ∧ HasBlk W4 w.heap.size #[.int .i64 (m : Int), .slice a zs.length c] 25 ∧ W4.heap.size = W3.heap.size + 1 ∧ Below W3.heap.size W3 W4 :=
    ⟨_, rfl, FamBox.start W3 w.heap.size _, HasBlk.alloc q0 _, by simp, below1 W3 _⟩
  obtain ⟨W5, hW5, r5, hs5, hb5⟩ : ∃ W5, W4.alloc (.cells #[.int .i64 (m : Int), .slice a zs.length c] 25) = W5 ∧ HasBlk W5 W4.heap.size #[.int .i64 (m : Int), .slice a zs.length c] 25 ∧ W5.heap.size = W4.heap.size + 1 ∧ Below W4.heap.size W4 W5 :=
    ⟨_, rfl, alloc_new W4 _, by simp, below1 W4 _⟩
  have hb5 := hb4.trans (hb5.mono (show W3.heap.size ≤ W4.heap.size by omega))
  have r4 : FamBox W3.heap.size w.heap.size (m : Int) [] W5 := by rw [← hW5]; exact r4.alloc _
  have x0 := (blk_cell q0 0).trans (cell2_0 _ _)
  have x1 := (blk_cell q0 1).trans (cell2_1 _ _)
  have y0 := (blk_cell p0 0).trans (cell2_0 _ _)
  have y1 := (blk_cell p0 1).trans (cell2_1 _ _)
  have HB5 := Lib.hid (hb3.trans (hb5.mono (by omega)))
  have Q1 : Hid (HasBlk W5 (w.heap.size + 1) #[.int .i64 (s : Int)] 50) := Lib.hid ((hb5.block _ (by omega)).trans q1)
  have Q2 : Hid (HasBlk W5 (w.heap.size + 1 + 1) #[.int .i64 0, .slice none 0 0] 25) := Lib.hid ((hb5.block _ (by omega)).trans q2)
  have HR4 := Lib.hid r4
  have HS5 := Lib.hid hs5
  have HS3 := Lib.hid hs3
  rw [hs4] at r5
  have hst := clubsP_stops (IsSet m) (6 - 1) (by omega) (W3.heap.size + 1) w.heap.size a c zs (by omega) hz.at_ W5 (by omega) (by omega) ((blk_cell r5 1).trans (cell2_1 _ _)) (ha.below HB5.out)
  have HST := Lib.hid hst
  have HW5 := Lib.hid hW5
  have HS4 := Lib.hid hs4
  have HW4 := Lib.hid hW4
  rw [← hW4] at y0 y1
  clear hW4 ha q0 q1 q2 hs3 hb3 r4 r5 hs5 hb5 hst hW5 p0 hb4 hs4
  refine (callsIn_wide (n := 6)).1 ?_
  refine callsIn_of_wp_marks Tryd.func103 rfl trivial ?_ rfl
  simp only [Tryd.ntmps103, List.size_toArray, List.length_cons, List.length_nil, Nat.reduceAdd, Nat.reduceSub, Array.replicate_succ, Array.replicate_zero, List.push_toArray, List.append_toArray, List.nil_append, List.cons_append]
  gi_wp2_with (refine ⟨trivial, ?_⟩; gi_at_call 57; refine (callsIn_wide.2 (clubs_any _ _ _ _ _)).mono ?_; rintro e w' ⟨rfl, rfl⟩)
  rw [HW4.out, HW5.out]
  refine wpIn_rangeFunc_ownH rfl h16 (gf := 84) (lb := #[.pointer (some ⟨W3.heap.size + 1, 0, none⟩)]) rfl trivial (enters_of Tryd.func84 (by kernel_rfl) rfl)
    HST.out belowK_t (belowK_b (by have := HS5.out; have := HS4.out; have := HS3.out; omega)) (Below.refl _ _) (fun _ => rfl)
    (fun pre W => (FamBox W3.heap.size w.heap.size (m : Int) (growL (sndL pre) (s : Int)) W ∧ HasBlk W (w.heap.size + 1) #[.int .i64 (s : Int)] 50 ∧ HasBlk W (w.heap.size + 1 + 1) #[.int .i64 0, .slice none 0 0] 25) ∧ Below w.heap.size w W)
    (fun _ _ _ => False)
    (OwnFrom.and (OwnFrom.and (Own.from (FamBox.own _ _ _ (fun pre : List { p // IsSet m p } => growL (sndL pre) (s : Int))) _) (OwnFrom.and (Own.from (hasBlk_own _ _ _) _) (Own.from (hasBlk_own _ _ _) _))) (ownFrom_below (Nat.le_refl _) (by have := HS5.out; have := HS4.out; have := HS3.out; omega)))
    (fun _ _ _ _ _ hs _ _ => hs)
    ⟨⟨HR4.out, Q1.out, Q2.out⟩, HB5.out⟩
    (fun x a' W => ∃ Bx, W3.heap.size < Bx ∧ Boxed W Bx 50 (.int .i64 x.1.2) ∧ a' = { tmps := #[.agg #[.int .i64 (m : Int), .slice a zs.length c], .int .i64 (s : Int), .pointer (some ⟨w.heap.size, 0, none⟩), .pointer (some ⟨w.heap.size + 1, 0, none⟩), .pointer (some ⟨w.heap.size + 1 + 1, 0, none⟩), .pointer (some ⟨W3.heap.size, 0, none⟩), undef, .pointer (some ⟨Bx, 0, none⟩), undef, .pointer (some ⟨w.heap.size, 0, none⟩), .int .i64 (m : Int), .agg #[.int .i64 (m : Int), .slice none 0 0], .agg #[.int .i64 (m : Int), .slice a zs.length c], .func (.func 84) #[] #[.pointer (some ⟨W3.heap.size + 1, 0, none⟩)], .int .i64 (x.1.1 : Int), .int .i64 x.1.2, undef, undef, undef, undef, undef, undef, undef, undef, undef, undef, undef, undef], defers := [] })
    (fun x a' _ X Y row hs hg hr => by obtain ⟨Bx, h1, h2, h3⟩ := hs; exact ⟨Bx, h1, boxed_own Bx 50 (fun (_ : Unit) => Value.int .i64 x.1.2) () X Y row h2 hg (fun r e => (hr r e).2), h3⟩)
    ?assign ?body ?done ?stop
  case assign =>
    rintro l pre x W K ⟨⟨hv, q1, q2⟩, hB⟩ hK
    have hWs := hB.size
    gi_wp2
    obtain ⟨v0, hb0, -⟩ := id hv
    exact hK _ _ ((KeepsOthers.alloc _ _).from _) ((Below.refl _ W).alloc hWs _) ⟨⟨hv.alloc _, q1.alloc _, q2.alloc _⟩, hB.alloc hWs _⟩ ⟨W.heap.size, lt_of_some hb0, Boxed.new W 50 _, rfl⟩
  case body =>
    rintro l pre ⟨⟨xi, xz⟩, hx0, hx1⟩ a' W hl ⟨r, hr⟩ ⟨⟨hv, q1, q2⟩, hB⟩ ⟨Bx, hBx, bX, rfl⟩ hlt
    dsimp only at hx0 hx1 bX
    obtain ⟨z, rfl⟩ : ∃ z : Nat, xz = (z : Int) := ⟨xz.toNat, by omega⟩
    obtain ⟨x, hxx⟩ : ∃ x : { p // IsSet m p }, x = ⟨(xi, (z : Int)), hx0, hx1⟩ := ⟨_, rfl⟩
    have hxz : x.1.2 = (z : Int) := by rw [hxx]
    have hz64 : z < 64 := p64 hm (by rw [Int.toNat_natCast] at hx1; exact hx1)
    have hlen : (growL (sndL pre) (s : Int)).length ≤ 6 * pre.length := by
      have := growL_len (s : Int) m hm (by rw [Int.toNat_natCast]; exact hs) (sndL pre)
      rw [sndL_len] at this
      exact this
    have HTW : Hid (Tab W) := Lib.hid (HT.out.below hB HT.out.lt)
    have c0 := (blk_cell q1 0).trans (cell1_0 _)
    have hWs : w.heap.size ≤ W.heap.size := hB.size
    have HV := Lib.hid hv
    have HX := Lib.hid bX
    have HB := Lib.hid hB
    have HQ1 := Lib.hid q1
    have HQ2 := Lib.hid q2
    have HXZ := Lib.hid hxz
    have h1' : 1 ≤ 6 - 1 - 1 := by omega
    have hBxW : Bx < W.heap.size := bX.lt
    dsimp only
    rw [← hxx]
    clear hv hB q1 q2 hxz hxx bX
    gi_wp2_with (refine ⟨trivial, ?_⟩; gi_at_call 82; refine (callsIn_wide.2 (members_any _ _)).mono ?_; rintro e w' ⟨rfl, rfl⟩)
    have hst2 := (members_stops (6 - 1 - 1 - 1) (by omega) W.heap.size w.heap.size m s hm hs (W.alloc (.cells #[.int .i64 (s : Int)] 50)) (by simp) (by simp; omega) HT.out.lt (by simp)
      (HTW.out.step (below1 W _))).inRound l
    have hr' : (W.alloc (.cells #[.int .i64 (s : Int)] 50)).heap[l]? = some (.loop r) := (alloc_old W _ l (lt_of_some hr)).trans hr
    have h00 : FamBox W3.heap.size w.heap.size (m : Int) (growL (sndL pre) (s : Int) ++ rowU z ([] : List (Mem m))) (W.alloc (.cells #[.int .i64 (s : Int)] 50)) := by
      rw [show rowU z ([] : List (Mem m)) = [] from rfl, List.append_nil]; exact HV.out.alloc _
    refine wpIn_rangeFunc_ownN (l₀ := l) (r₀ := r) rfl hr' h1' (gf := 101) (lb := #[.pointer (some ⟨W.heap.size, 0, none⟩)]) rfl trivial (enters_of Tryd.func101 (by kernel_rfl) rfl)
      hst2 belowK_t (belowK_b (by simp; omega)) (Below.refl _ _) (fun _ => rfl)
      (fun us W' => (FamBox W3.heap.size w.heap.size (m : Int) (growL (sndL pre) (s : Int) ++ rowU z us) W' ∧ Boxed W' Bx 50 (.int .i64 (z : Int)) ∧ HasBlk W' (w.heap.size + 1) #[.int .i64 (s : Int)] 50 ∧ HasBlk W' (w.heap.size + 1 + 1) #[.int .i64 0, .slice none 0 0] 25) ∧ (Below w.heap.size W W' ∧ KeepsFrom W5.heap.size W W'))
      (fun _ _ _ => False)
      (OwnFrom.and (OwnFrom.and (Own.from (FamBox.own _ _ _ (fun us => growL (sndL pre) (s : Int) ++ rowU z us)) _) (OwnFrom.and (Own.from (boxed_own _ _ _) _) (OwnFrom.and (Own.from (hasBlk_own _ _ _) _) (Own.from (hasBlk_own _ _ _) _)))) (OwnFrom.and (ownFrom_below hWs (by simp; omega)) (ownFrom_keepsFrom (by simp))))
      (fun _ _ _ _ _ hs _ _ => hs)
      ⟨⟨h00, HX.out.alloc _, HQ1.out.alloc _, HQ2.out.alloc _⟩, (Below.refl _ W).alloc hWs _, (KeepsOthers.alloc _ _).from _⟩
      (fun y a'' _ => a'' = { tmps := #[.agg #[.int .i64 (m : Int), .slice a zs.length c], .int .i64 (s : Int), .pointer (some ⟨w.heap.size, 0, none⟩), .pointer (some ⟨w.heap.size + 1, 0, none⟩), .pointer (some ⟨w.heap.size + 1 + 1, 0, none⟩), .pointer (some ⟨W3.heap.size, 0, none⟩), undef, .pointer (some ⟨Bx, 0, none⟩), .int .i64 (y.1 : Int), .pointer (some ⟨w.heap.size, 0, none⟩), .int .i64 (m : Int), .agg #[.int .i64 (m : Int), .slice none 0 0], .agg #[.int .i64 (m : Int), .slice a zs.length c], .func (.func 84) #[] #[.pointer (some ⟨W3.heap.size + 1, 0, none⟩)], .int .i64 (xi : Int), .int .i64 (z : Int), .int .i64 (s : Int), .func (.func 101) #[] #[.pointer (some ⟨W.heap.size, 0, none⟩)], .int .i64 (y.1 : Int), undef, undef, undef, undef, undef, undef, undef, undef, undef], defers := [] })
      (fun _ _ _ _ _ _ hs _ _ => hs)
      ?assign2 ?body2 ?done2 ?stop2
    case assign2 =>
      rintro l2 us y W' K hi hK
      gi_wp2
      exact hK _ _ (KeepsFrom.refl _ _) (Below.refl _ _) hi rfl
    case body2 =>
      rintro l2' us y a'' W' _ _ ⟨⟨⟨v, hvb, hrow⟩, hX, q1, q2⟩, hBW, hKF⟩ rfl hul
      obtain ⟨yy, hyy⟩ : ∃ yy, yy = y := ⟨_, rfl⟩
      obtain ⟨u, hu⟩ := y
      have hRS : Hid (growL (sndL pre) (s : Int) ++ rowU z (us ++ [yy]) = (growL (sndL pre) (s : Int) ++ rowU z us) ++ [((z ||| 2 ^ u : Nat) : Int)]) := Lib.hid (by rw [rowU_snoc, hyy, List.append_assoc])
      have hlo : w.heap.size ≤ W'.heap.size := Nat.le_trans hWs hBW.size
      have hXb : HasBlk W' Bx #[.int .i64 (z : Int)] 50 := hX
      have hbl : (growL (sndL pre) (s : Int) ++ rowU z us).length ≤ 100000 := by rw [List.length_append, rowU_len]; omega
      obtain ⟨v', w1, hrun, hown, hgrow⟩ := appW_run (W := W'.drew) (lo := w.heap.size) (v := v) hrow hlo hbl ((z ||| 2 ^ u : Nat) : Int)
      obtain ⟨g9, cap9, hv9⟩ := ownsRow_succ hown
      have HV9 := Lib.hid hv9
      clear hv9
      have hD : w.heap.size ≤ W3.heap.size := by have := HS3.out; omega
      obtain ⟨hv1, hv2, hk2, hb2⟩ := FamBox.appended (W := W'.drew) hvb hrow hlo hD hown hgrow
      have nX := (hasBlk_not_row hXb club_ne3 hrow).symm
      have n1 := (hasBlk_not_row q1 club_ne3 hrow).symm
      have n2 := (hasBlk_not_row q2 fam_ne hrow).symm
      have X1 : HasBlk w1 Bx #[.int .i64 (z : Int)] 50 := (HasBlk.alloc (W := W'.drew) hXb _).kept hgrow nX
      have q11 : HasBlk w1 (w.heap.size + 1) #[.int .i64 (s : Int)] 50 := (HasBlk.alloc (W := W'.drew) q1 _).kept hgrow n1
      have q21 : HasBlk w1 (w.heap.size + 1 + 1) #[.int .i64 0, .slice none 0 0] 25 := (HasBlk.alloc (W := W'.drew) q2 _).kept hgrow n2
      have z0 : W'.drew.cell? ⟨Bx, 0, none⟩ = some (.int .i64 (z : Int)) := (blk_cell (w := W'.drew) hXb 0).trans (cell1_0 _)
      have z1 := (blk_cell (HasBlk.alloc (W := W'.drew) hXb (.cells #[.int .i64 ((z ||| 2 ^ u : Nat) : Int)] 3)) 0).trans (cell1_0 _)
      have z2 := (blk_cell X1 0).trans (cell1_0 _)
      have z3 : (w1.setCell ⟨W3.heap.size, 1, none⟩ v').cell? ⟨Bx, 0, none⟩ = some (.int .i64 (z : Int)) := (World.cell?_setCell_far w1 ⟨W3.heap.size, 1, none⟩ ⟨Bx, 0, none⟩ v' (by show W3.heap.size ≠ Bx; omega)).trans z2
      have d0 : W'.drew.cell? ⟨W3.heap.size, 1, none⟩ = some v := (blk_cell (w := W'.drew) hvb 1).trans (cell2_1 _ _)
      have d1 := (blk_cell (HasBlk.alloc (W := W'.drew) hvb (.cells #[.int .i64 ((z ||| 2 ^ u : Nat) : Int)] 3)) 1).trans (cell2_1 _ _)
      have z0' : W'.cell? ⟨Bx, 0, none⟩ = some (.int .i64 (z : Int)) := z0
      have z1' : (W'.alloc (.cells #[.int .i64 ((z ||| 2 ^ u : Nat) : Int)] 3)).cell? ⟨Bx, 0, none⟩ = some (.int .i64 (z : Int)) := z1
      have d0' : W'.cell? ⟨W3.heap.size, 1, none⟩ = some v := d0
      have d1' : (W'.alloc (.cells #[.int .i64 ((z ||| 2 ^ u : Nat) : Int)] 3)).cell? ⟨W3.heap.size, 1, none⟩ = some v := d1
      have d2 := (blk_cell hv1 1).trans (cell2_1 _ _)
      have f2 := blk_frozen hv1 1
      have HV2 := Lib.hid hv2
      have HB2 := Lib.hid hb2
      have HK2 := Lib.hid ((KeepsOthers.drew W').trans hk2)
      have X3 : Hid (HasBlk (w1.setCell ⟨W3.heap.size, 1, none⟩ v') Bx #[.int .i64 (z : Int)] 50) := Lib.hid (HasBlk.far (p := ⟨W3.heap.size, 1, none⟩) X1 (by show Bx ≠ W3.heap.size; omega) v')
      have Q13 : Hid (HasBlk (w1.setCell ⟨W3.heap.size, 1, none⟩ v') (w.heap.size + 1) #[.int .i64 (s : Int)] 50) := Lib.hid (HasBlk.far (p := ⟨W3.heap.size, 1, none⟩) q11 (by show w.heap.size + 1 ≠ W3.heap.size; have := HS3.out; omega) v')
      have Q23 : Hid (HasBlk (w1.setCell ⟨W3.heap.size, 1, none⟩ v') (w.heap.size + 1 + 1) #[.int .i64 0, .slice none 0 0] 25) := Lib.hid (HasBlk.far (p := ⟨W3.heap.size, 1, none⟩) q21 (by show w.heap.size + 1 + 1 ≠ W3.heap.size; have := HS3.out; omega) v')
      have HBW := Lib.hid hBW
      have HKF := Lib.hid hKF
      have HRUN := Lib.hid hrun
      have hmx : Tryd.prog.follows .mixedOrders = true := by kernel_rfl
      have hu8 : u < 8 := by omega
      clear hvb hrow hX q1 q2 hBW hKF hXb hrun hown hgrow hv1 hv2 hk2 hb2 X1 q11 q21 nX n1 n2
      gi_wp2
      refine wpIn_region_held (A := fun ls => { tmps := #[.agg #[.int .i64 (m : Int), .slice a zs.length c], .int .i64 (s : Int), .pointer (some ⟨w.heap.size, 0, none⟩), .pointer (some ⟨w.heap.size + 1, 0, none⟩), .pointer (some ⟨w.heap.size + 1 + 1, 0, none⟩), .pointer (some ⟨W3.heap.size, 0, none⟩), undef, .pointer (some ⟨Bx, 0, none⟩), .int .i64 (u : Int), .pointer (some ⟨w.heap.size, 0, none⟩), .int .i64 (m : Int), .agg #[.int .i64 (m : Int), .slice none 0 0], .agg #[.int .i64 (m : Int), .slice a zs.length c], .func (.func 84) #[] #[.pointer (some ⟨W3.heap.size + 1, 0, none⟩)], .int .i64 (xi : Int), .int .i64 (z : Int), .int .i64 (s : Int), .func (.func 101) #[] #[.pointer (some ⟨W.heap.size, 0, none⟩)], .int .i64 (u : Int), (bif ls.getD 0 false then .pointer (some ⟨W3.heap.size, 1, none⟩) else undef), (bif ls.getD 1 false then v else undef), (bif ls.getD 2 false then .int .i64 (z : Int) else undef), (bif ls.getD 3 false then .int .i64 (u : Int) else undef), (bif ls.getD 4 false then .int .i64 ((z ||| 2 ^ u : Nat) : Int) else undef), (bif ls.getD 5 false then .slice (some ⟨W'.heap.size, 0, none⟩) 1 1 else undef), (bif ls.getD 6 false then v' else undef), (bif ls.getD 7 false then .pointer (some ⟨W3.heap.size, 1, none⟩) else undef), undef], defers := [] }) (S := fun ls W'' => (ls.getD 8 false = true → ls.getD 6 false = true) ∧ (ls.getD 6 false = true → ls.getD 5 false = true ∧ ls.getD 1 false = true) ∧ W'' = (bif ls.getD 8 false then w1.setCell ⟨W3.heap.size, 1, none⟩ v' else bif ls.getD 6 false then w1 else bif ls.getD 5 false then W'.drew.alloc (.cells #[.int .i64 ((z ||| 2 ^ u : Nat) : Int)] 3) else W'.drew)) hmx (by kernel_rfl) rfl ⟨by simp, by simp, rfl⟩ ?step ?fin
      case step =>
        intro listed W'' i hsz hi hS
        obtain ⟨l0, l1, l2, l3, l4, l5, l6, l7, l8, rfl⟩ := arr9 listed hsz
        obtain ⟨hi1, hi2⟩ := List.mem_filter.1 hi
        have hi9 : i < 9 := by simpa using hi1
        obtain ⟨s1, s2, s3⟩ := hS
        have HS1 := Lib.hid s1
        have HS2 := Lib.hid s2
        change l8 = true → l6 = true at s1
        change l6 = true → l5 = true ∧ l1 = true at s2
        change W'' = (bif l8 then w1.setCell ⟨W3.heap.size, 1, none⟩ v' else bif l6 then w1 else bif l5 then W'.drew.alloc (.cells #[.int .i64 ((z ||| 2 ^ u : Nat) : Int)] 3) else W'.drew) at s3
        have hcase : i = 0 ∨ i = 1 ∨ i = 2 ∨ i = 3 ∨ i = 4 ∨ i = 5 ∨ i = 6 ∨ i = 7 ∨ i = 8 := by omega
        rcases hcase with rfl | rfl | rfl | rfl | rfl | rfl | rfl | rfl | rfl
        · have S3 := Lib.hid s3
          clear s3
          refine wpOpIn_of_list rfl ?_
          gi_wp2
          first | rfl | (refine ⟨rfl, ?_⟩; rfl) | exact ⟨rfl, (by first | (simp; done) | (simpa using HS1.out)), (by first | (simp; done) | (simpa using HS2.out) | (intro _; simp_all)), (by exact S3.out)⟩
        · skip
          have g0 : l0 = true := by simp [Region.binds] at hi2; simp_all
          have g1 : l1 = false := by simp [Region.binds] at hi2; simp_all
          have g6 : l6 = false := by cases h : l6 <;> first | rfl | (have h2 := s2 h; simp_all)
          have g8 : l8 = false := by cases h : l8 <;> first | rfl | (have h2 := s1 h; simp_all)
          subst g0; subst g1; subst g6; subst g8
          cases l5
          all_goals
            clear s1 s2
            simp only [cond_false, cond_true] at s3
            subst s3
            refine wpOpIn_of_list rfl ?_
            gi_wp2
            first | rfl | (refine ⟨rfl, ?_⟩; rfl) | exact ⟨rfl, (by first | (simp; done) | (simpa using HS1.out)), (by first | (simp; done) | (simpa using HS2.out) | (intro _; simp_all)), (by rfl)⟩
        · have hst : (l8 = true ∧ l6 = true ∧ l5 = true) ∨ (l8 = false ∧ l6 = true ∧ l5 = true) ∨ (l8 = false ∧ l6 = false ∧ l5 = true) ∨ (l8 = false ∧ l6 = false ∧ l5 = false) := by
            cases l8 <;> cases l6 <;> cases l5 <;> simp_all
          rcases hst with ⟨rfl, rfl, rfl⟩ | ⟨rfl, rfl, rfl⟩ | ⟨rfl, rfl, rfl⟩ | ⟨rfl, rfl, rfl⟩
          all_goals
            clear s1 s2
            simp only [cond_false, cond_true] at s3
            subst s3
            refine wpOpIn_of_list rfl ?_
            gi_wp2
            first | rfl | (refine ⟨rfl, ?_⟩; rfl) | exact ⟨rfl, (by first | (simp; done) | (simpa using HS1.out)), (by first | (simp; done) | (simpa using HS2.out) | (intro _; simp_all)), (by rfl)⟩
        · have S3 := Lib.hid s3
          clear s3
          refine wpOpIn_of_list rfl ?_
          gi_wp2
          first | rfl | (refine ⟨rfl, ?_⟩; rfl) | exact ⟨rfl, (by first | (simp; done) | (simpa using HS1.out)), (by first | (simp; done) | (simpa using HS2.out) | (intro _; simp_all)), (by exact S3.out)⟩
        · have hz256 : z < 256 := by omega
          have g2 : l2 = true := by simp [Region.binds] at hi2; simp_all
          have g3 : l3 = true := by simp [Region.binds] at hi2; simp_all
          subst g2; subst g3
          have S3 := Lib.hid s3
          clear s3
          refine wpOpIn_of_list rfl ?_
          gi_wp2_with (refine ⟨trivial, ?_⟩; gi_at_call 60; refine (CallsIn.inRound l2' (CallsIn.inRound l (callsIn_wide.2 (with_any z u hz256 hu8 _)))).mono ?_; rintro e w9 ⟨rfl, rfl⟩)
          first | rfl | (refine ⟨rfl, ?_⟩; rfl) | exact ⟨rfl, (by first | (simp; done) | (simpa using HS1.out)), (by first | (simp; done) | (simpa using HS2.out) | (intro _; simp_all)), (by exact S3.out)⟩
        · skip
          have g4 : l4 = true := by simp [Region.binds] at hi2; simp_all
          have g5 : l5 = false := by simp [Region.binds] at hi2; simp_all
          have g6 : l6 = false := by cases h : l6 <;> first | rfl | (have h2 := s2 h; simp_all)
          have g8 : l8 = false := by cases h : l8 <;> first | rfl | (have h2 := s1 h; simp_all)
          subst g4; subst g5; subst g6; subst g8
          simp only [cond_false, cond_true] at s3
          subst s3
          refine wpOpIn_of_list rfl ?_
          gi_wp2
          first | rfl | (refine ⟨rfl, ?_⟩; rfl) | exact ⟨rfl, (by first | (simp; done) | (simpa using HS1.out)), (by first | (simp; done) | (simpa using HS2.out) | (intro _; simp_all)), (by rfl)⟩
        · skip
          have g1 : l1 = true := by simp [Region.binds] at hi2; simp_all
          have g5 : l5 = true := by simp [Region.binds] at hi2; simp_all
          have g6 : l6 = false := by simp [Region.binds] at hi2; simp_all
          have g8 : l8 = false := by cases h : l8 <;> first | rfl | (have h2 := s1 h; simp_all)
          subst g1; subst g5; subst g6; subst g8
          simp only [cond_false, cond_true] at s3
          subst s3
          refine wpOpIn_of_list rfl ?_
          refine wpListIn_append_run rfl _ _ 23 23 rfl v (.slice (some ⟨W'.heap.size, 0, none⟩) 1 1) rfl rfl HRUN.out ?_
          gi_wp2
          first | rfl | (refine ⟨rfl, ?_⟩; rfl) | exact ⟨rfl, (by first | (simp; done) | (simpa using HS1.out)), (by first | (simp; done) | (simpa using HS2.out) | (intro _; simp_all)), (by rfl)⟩
        · have S3 := Lib.hid s3
          clear s3
          refine wpOpIn_of_list rfl ?_
          gi_wp2
          first | rfl | (refine ⟨rfl, ?_⟩; rfl) | exact ⟨rfl, (by first | (simp; done) | (simpa using HS1.out)), (by first | (simp; done) | (simpa using HS2.out) | (intro _; simp_all)), (by exact S3.out)⟩
        · skip
          have g6 : l6 = true := by simp [Region.binds] at hi2; simp_all
          have g7 : l7 = true := by simp [Region.binds] at hi2; simp_all
          have g8 : l8 = false := by simp [Region.binds] at hi2; simp_all
          subst g6; subst g7; subst g8
          simp only [cond_false, cond_true] at s3
          subst s3
          have hv9 := HV9.out
          subst hv9
          refine wpOpIn_of_list rfl ?_
          gi_wp2
          first | rfl | (refine ⟨rfl, ?_⟩; rfl) | exact ⟨rfl, (by first | (simp; done) | (simpa using HS1.out)), (by first | (simp; done) | (simpa using HS2.out) | (intro _; simp_all)), (by rfl)⟩
      case fin =>
        intro listed W'' hsz hall hS
        obtain ⟨l0, l1, l2, l3, l4, l5, l6, l7, l8, rfl⟩ := arr9 listed hsz
        simp at hall
        obtain ⟨rfl, rfl, rfl, rfl, rfl, rfl, rfl, rfl, rfl⟩ := hall
        obtain ⟨-, -, s3⟩ := hS
        change W'' = w1.setCell ⟨W3.heap.size, 1, none⟩ v' at s3
        subst s3
        gi_wp2
        refine ⟨HK2.out.from _, (Below.refl _ W').drew.trans HB2.out, ⟨?_, X3.out, Q13.out, Q23.out⟩, HBW.out.trans ((Below.refl _ W').drew.trans HB2.out), HKF.out.trans (HK2.out.from _)⟩
        have h9 := hRS.out
        rw [hyy] at h9
        rw [h9]
        exact HV2.out
    case done2 =>
      rintro us W' hus ⟨⟨hv, hX, q1, q2⟩, hBW, hKF⟩
      gi_wp2
      refine ⟨hKF, hBW, ⟨?_, q1, q2⟩, HB.out.trans hBW⟩
      rw [sndL_snoc, HXZ.out, growL_snoc _ _ _ us hus, Int.toNat_natCast]
      exact hv
    case stop2 =>
      rintro c us W' _ h
      exact h.elim
  case done =>
    rintro E ys W hE hys ⟨⟨⟨v, hv, hrow⟩, q1, q2⟩, hB⟩ hK
    rw [sndL_all hys] at hrow
    obtain ⟨ga, gc, rfl⟩ := slice_form hrow
    have d0 := (blk_cell hv 0).trans (cell2_0 _ _)
    have d1 := (blk_cell hv 1).trans (cell2_1 _ _)
    have e0 := (blk_cell q2 0).trans (cell2_0 _ _)
    have e1 := (blk_cell q2 1).trans (cell2_1 _ _)
    have f0 := blk_frozen q2 0
    have f1 := blk_frozen q2 1
    have HR := Lib.hid hrow
    have HB := Lib.hid hB
    have HEs : Hid (w.heap.size ≤ E) := Lib.hid (by have := HS5.out; have := HS4.out; have := HS3.out; omega)
    have hb2 : HasBlk ((W.setCell ⟨w.heap.size + 1 + 1, 0, none⟩ (.int .i64 (m : Int))).setCell ⟨w.heap.size + 1 + 1, 1, none⟩ (.slice ga (growL zs (s : Int)).length gc)) (w.heap.size + 1 + 1) #[.int .i64 (m : Int), .slice ga (growL zs (s : Int)).length gc] 25 := HasBlk.set2 q2 _ _
    have hK2 := (KeepsOthers.setCell (W.setCell ⟨w.heap.size + 1 + 1, 0, none⟩ (.int .i64 (m : Int))) ⟨w.heap.size + 1 + 1, 1, none⟩ (.slice ga (growL zs (s : Int)).length gc)).same E _ ((KeepsOthers.setCell W ⟨w.heap.size + 1 + 1, 0, none⟩ (.int .i64 (m : Int))).same E _ hK rfl) rfl
    have hne : w.heap.size + 1 + 1 ≠ E := fun e => by subst e; rw [show W.heap[w.heap.size + 1 + 1]? = _ from q2] at hK; cases hK
    have HB2 : Hid (HasBlk (((W.setCell ⟨w.heap.size + 1 + 1, 0, none⟩ (.int .i64 (m : Int))).setCell ⟨w.heap.size + 1 + 1, 1, none⟩ (.slice ga (growL zs (s : Int)).length gc)).putObj E (.deferred none)) (w.heap.size + 1 + 1) #[.int .i64 (m : Int), .slice ga (growL zs (s : Int)).length gc] 25) := Lib.hid ((World.putObj_heap_other (by first | exact hne | exact Ne.symm hne)).trans hb2)
    have g0 := (blk_cell HB2.out 0).trans (cell2_0 _ _)
    have g1 := (blk_cell HB2.out 1).trans (cell2_1 _ _)
    have HK2 := Lib.hid hK2
    have HQ2 := Lib.hid q2
    have HV := Lib.hid hv
    clear hv hrow hB q1 q2 hb2 hK2 hK
    gi_wp2
    refine ⟨by simp, .inl ⟨_, _, rfl, run_takeDeferred HK2.out, ?_⟩⟩
    refine ⟨.agg #[.int .i64 (m : Int), .slice ga (growL zs (s : Int)).length gc], by simp [results, Tryd.f103, go_sem, g0, g1], ga, gc, rfl, ?_, ?_⟩
    · have h1 := ownsRow_setCell_ne HR.out (p := ⟨w.heap.size + 1 + 1, 0, none⟩) (hasBlk_not_row HQ2.out fam_ne HR.out).symm (.int .i64 (m : Int))
      have h2 := ownsRow_setCell_ne h1 (p := ⟨w.heap.size + 1 + 1, 1, none⟩) (hasBlk_not_row HQ2.out fam_ne HR.out).symm (.slice ga (growL zs (s : Int)).length gc)
      exact ownsRow_putObj h2 _ HK2.out rfl
    · exact ((HB.out.setCell (p := ⟨w.heap.size + 1 + 1, 0, none⟩) (by simp; omega) _).setCell (p := ⟨w.heap.size + 1 + 1, 1, none⟩) (by simp; omega) _).trans (belowK_b (w := w) (Nat.le_refl _) _ E _ _ HEs.out HK2.out rfl rfl)
  case stop =>
    rintro D c pre W _ _ h _
    exact h.elim

end Go.Proofs.YtcmpjegfikdofaaDoor
