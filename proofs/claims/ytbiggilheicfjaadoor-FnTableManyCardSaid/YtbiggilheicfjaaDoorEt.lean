/- It is proved what TableMany of the program returns; conditions: those of each statement. -/
import Derived.RowKit
import Derived.Laws.CopyRow
import Derived.Lib.SlBuf
import Derived.Deep.QuietTactic
import Derived.RangeFuncNested
import Derived.RangeFuncBound
import Derived.RangeFuncCalls
import Derived.RangeFuncLeaves
import Derived.RangeFuncBox
import Derived.RangeFuncWrites
import Derived.StillTailTactics
import Derived.Maps.OwnIn
import Derived.Maps.Ext
import Derived.DeepKeys4
import Derived.MapKept
import Derived.Test.YtbiggilheicfjaaDoorRows
import Derived.WalkKit
import Derived.WalkSpells
import Derived.ProofKit
import Derived.OpenShut
import Derived.ShutString
import Derived.ChangeOld
import Derived.Below
import Derived.Deep.RegionHeld3
import Derived.BigQuiet
import Derived.Lib.Hide
import Derived.Lib.SmallJoins
import Derived.Outline
import Derived.Laws.MakeOwn
import Derived.Laws.OwnMore
import Derived.IntWalk
import Derived.Maps.AppendAt
import Derived.Sort.QuietIn
import Derived.Lib.AppendZeros
import Derived.Deep.AppendLies
import Derived.OwnWalk
import Derived.Lib.SlicesCompact
import Derived.Lib.OwnBridge
import Derived.OrdersIn
import Derived.TacticsIn
import Derived.Shelf.Sort.Plain
import Derived.Shelf.Slices.In.SortNone
import Derived.Shelf.Slices.CompactI
import Derived.Ground.Names2Prog
import Derived.Shelf.Abstract
import Derived.Shelf.RegionOpen
import Derived.OwnWalkIn
import Derived.TacticsInMore
import Derived.LoopNIn
import Derived.LoopIn
import Derived.StillTail
import Derived.StillTactics
import Derived.Shelf.Spec.TrailingZeros
import Derived.Test.YtbiggilheicfjaaDoorMva
import Derived.Test.YtbiggilheicfjaaDoorAh
import Derived.Test.YtbiggilheicfjaaDoorAi
import Derived.Test.YtbiggilheicfjaaDoorEc
import Derived.Test.YtbiggilheicfjaaDoorEp
import Derived.Test.YtbiggilheicfjaaDoorEq
import Derived.Test.YtbiggilheicfjaaDoorEs
import Derived.Test.YtbiggilheicfjaaDoorT
namespace Go.Proofs.YtbiggilheicfjaaDoor
open Go.RowKit Go.Shelf

attribute [local go_sem] Oper.semAt_some

/-- How many tables the program finds. -/
def tabN (zs ds : List Int) : Nat := (tabs zs (pad5 ds)).length

set_option maxRecDepth 100000 in
set_option maxHeartbeats 2000000 in
theorem implMany_no (za da : Option Addr) (zc dc : Nat) (zs ds : List Int) (w : World) (ha : Ints w w.heap.size za zs) (hb : Ints w w.heap.size da ds) (hx : zs.length ≤ 1048576) (hy : ds.length ≤ 1048576) (hf : tabIn zs ds = false) :
    Calls Tryd.prog 17 #[.slice za zs.length zc, .slice da ds.length dc] w fun e w' => e = .returned (.tuple #[.int .i64 0, .bool false]) ∧ Below w.heap.size w w' := by
  have HA := Lib.hid ha
  have HB := Lib.hid hb
  clear ha hb
  cases h1 : numIn zs
  · have H1 := Lib.hid h1
    clear h1 hf
    go_enter Tryd.func17, Tryd.ntmps17
    go_wp2_with fail
    refine (numbersIn_any za zc zs _ HA.out hx).mono ?_
    rintro e w1 ⟨rfl, rfl⟩
    rw [H1.out]
    go_wp2
    go_ret2
    exact ⟨rfl, Below.refl _ _⟩
  · have H1 := Lib.hid h1
    have H2 : Hid (degIn ds = false) := Lib.hid (by rw [tabIn, h1] at hf; simpa using hf)
    clear h1 hf
    go_enter Tryd.func17, Tryd.ntmps17
    go_wp2_with fail
    refine (numbersIn_any za zc zs _ HA.out hx).mono ?_
    rintro e w1 ⟨rfl, rfl⟩
    rw [H1.out]
    go_wp2_with fail
    refine (degreesIn_any da dc ds _ HB.out hy).mono ?_
    rintro e w1 ⟨rfl, rfl⟩
    rw [H2.out]
    go_wp2
    go_ret2
    exact ⟨rfl, Below.refl _ _⟩

set_option maxRecDepth 100000 in
set_option maxHeartbeats 4000000 in
theorem implMany_yes (za da : Option Addr) (zc dc : Nat) (zs ds : List Int) (w : World) (ha : Ints w w.heap.size za zs) (hb : Ints w w.heap.size da ds) (hT : Tab w) (hx : zs.length ≤ 1048576) (hy : ds.length ≤ 1048576) (hf : tabIn zs ds = true) :
    Calls Tryd.prog 17 #[.slice za zs.length zc, .slice da ds.length dc] w fun e w' => e = .returned (.tuple #[.int .i64 ((tabN zs ds : Nat) : Int), .bool true]) ∧ Below w.heap.size w w' := by
  obtain ⟨hz, hd⟩ := tabIn_out hf
  obtain ⟨hz5, -⟩ := numIn_out hz
  have HA := Lib.hid ha
  have HB := Lib.hid hb
  have H1 := Lib.hid hz
  have H2 := Lib.hid hd
  have hN64 : 64 ^ zs.length ≤ 1073741824 := Nat.pow_le_pow_right (n := 64) (by decide) hz5
  have HN64 := Lib.hid hN64
  have hT1 := hT.lt
  obtain ⟨W4, hW4, q0, q1, q2, hs4, hb4⟩ : ∃ W4, ((w.alloc (.cells #[.int .i64 0] 3)).alloc (.cells #[.slice za zs.length zc] 23)).alloc (.cells #[.slice da ds.length dc] 23) = W4 ∧ HasBlk W4 w.heap.size #[.int .i64 0] 3 ∧ HasBlk W4 (w.heap.size + 1) #[.slice za zs.length zc] 23 ∧ HasBlk W4 (w.heap.size + 1 + 1) #[.slice da ds.length dc] 23 ∧ W4.heap.size = w.heap.size + 1 + 1 + 1 ∧ Below w.heap.size w W4 :=
    ⟨_, rfl, alloc3_0 w _ _ _, alloc3_1 w _ _ _, alloc3_2 w _ _ _, by simp, below3 w _ _ _⟩
  have hseq := tables1_in (6 - 1) w.heap.size (w.heap.size + 1) (w.heap.size + 1 + 1) za da zc dc zs ds hz hd (by omega) (by omega) W4 (by omega) (by omega) q1 q2 (ha.below hb4) ((hb.below hb4).mono (by omega)) (hT.below hb4 hT.lt)
  have HSEQ := Lib.hid hseq
  have Q0 := Lib.hid q0
  have HB4 := Lib.hid hb4
  have HS4 := Lib.hid hs4
  have HW4 := Lib.hid hW4
  clear ha hb hf hz hd hz5 hN64 hseq q0 q1 q2 hs4 hb4 hW4 hT
  refine (callsIn_wide (n := 6)).1 ?_
  refine callsIn_of_wp_marks Tryd.func17 rfl trivial ?_ rfl
  simp only [Tryd.ntmps17, List.size_toArray, List.length_cons, List.length_nil, Nat.reduceAdd, Nat.reduceSub, Array.replicate_succ, Array.replicate_zero, List.push_toArray, List.append_toArray, List.nil_append, List.cons_append]
  gi_wp2_with fail
  refine ⟨trivial, ?_⟩
  refine (callsIn_wide.2 (numbersIn_any za zc zs _ HA.out hx)).mono ?_
  rintro e w1 ⟨rfl, rfl⟩
  rw [H1.out]
  gi_wp2_with fail
  refine ⟨trivial, ?_⟩
  refine (callsIn_wide.2 (degreesIn_any da dc ds _ HB.out hy)).mono ?_
  rintro e w1 ⟨rfl, rfl⟩
  rw [H2.out]
  gi_wp2_with fail
  refine ⟨trivial, ?_⟩
  refine (callsIn_wide.2 (tables_any za da zc dc zs.length ds.length _)).mono ?_
  rintro e w2 ⟨rfl, rfl⟩
  gi_wp2_with fail
  rw [HW4.out]
  refine wpIn_rangeFunc_cells (n := 6) (by omega) (gf := 95) (lb := #[.pointer (some ⟨w.heap.size + 1, 0, none⟩), .pointer (some ⟨w.heap.size + 1 + 1, 0, none⟩)]) rfl (enters_of Tryd.func95 (by kernel_rfl) rfl)
    HSEQ.out (Below.refl _ _) (by have := HS4.out; omega) (fun _ => rfl)
    (fun x A l o h hl => h)
    (fun xs W => Boxed W w.heap.size 3 (.int .i64 (xs.length : Int)) ∧ But (fun k => k = w.heap.size) W4 W)
    ?own ⟨Q0.out, But.refl _ _⟩
    (fun x => { tmps := #[.slice za zs.length zc, .slice da ds.length dc, undef, undef, .int .i64 0, .bool false, .pointer (some ⟨w.heap.size, 0, none⟩), .slice za zs.length zc, .bool true, .bool false, .bool false, .slice da ds.length dc, .bool true, .bool false, .bool false, .slice za zs.length zc, .slice da ds.length dc, .func (.func 95) #[] #[.pointer (some ⟨w.heap.size + 1, 0, none⟩), .pointer (some ⟨w.heap.size + 1 + 1, 0, none⟩)], .agg (iv (pad5 (nI x))), undef, undef, undef], defers := [] }) ?assign ?body ?done
  case own =>
    rintro xs A C row ⟨hO, hB⟩ hg hr
    have hs := HS4.out
    refine ⟨HasBlk.kept hO hg (fun e => by have := hr _ e; omega), ?_⟩
    exact ⟨hg.os.trans hB.os, hg.tape.trans hB.tape, hg.output.trans hB.output, Nat.le_trans hB.size hg.size, fun i hi hX => (hg.block i (Nat.lt_of_lt_of_le hi hB.size) (fun e => by have := hr i e.symm; omega)).trans (hB.same i hi hX)⟩
  case assign =>
    intro l x W K hK
    gi_wp2
    simp [encT]
    exact hK
  case body =>
    rintro l xs x W ⟨hO, hB⟩ hok hlen
    have hl30 : (xs.length : Int) ≤ 1073741824 := by have := HN64.out; omega
    have hl0 : (0 : Int) ≤ (xs.length : Int) := by omega
    obtain ⟨N, hN⟩ : ∃ N, N = xs.length := ⟨_, rfl⟩
    rw [← hN] at hl30 hl0 hO
    have c0 := hO.cell
    have f0 := hO.frozen
    have hO2 : Boxed (W.setCell ⟨w.heap.size, 0, none⟩ (.int .i64 ((N : Int) + 1))) w.heap.size 3 (.int .i64 ((N : Int) + 1)) := hO.set _
    have HO2 := Lib.hid hO2
    have HB2 : Hid (But (fun k => k = w.heap.size) W4 (W.setCell ⟨w.heap.size, 0, none⟩ (.int .i64 ((N : Int) + 1)))) := Lib.hid (hB.trans (But.setCell _ _ _ _ (fun _ => rfl)))
    have HBS : Hid (But (fun k => k = w.heap.size) W (W.setCell ⟨w.heap.size, 0, none⟩ (.int .i64 ((N : Int) + 1)))) := Lib.hid (But.setCell _ _ _ _ (fun _ => rfl))
    have HN := Lib.hid hN
    clear hO hB hN hO2
    gi_wp2
    refine ⟨HBS.out, ?_, HB2.out⟩
    rw [List.length_append, List.length_singleton, ← HN.out, show ((N + 1 : Nat) : Int) = (N : Int) + 1 from by omega]
    exact HO2.out
  case done =>
    rintro D xs W hD rfl ⟨hO, hB⟩ hK
    have c0 := hO.cell
    have HBB : Hid (Below w.heap.size w W) := Lib.hid (HB4.out.trans (hB.below (B := w.heap.size) (by have := HS4.out; omega) (fun k e => by omega)))
    have hs4 := HS4.out
    clear hO hB
    gi_wp2
    refine ⟨by simp, .inl ⟨_, _, rfl, run_takeDeferred hK, ?_⟩⟩
    refine ⟨.tuple #[.int .i64 ((tabN zs ds : Nat) : Int), .bool true], by simp [results, Tryd.results17, go_sem, tabN], rfl, ?_⟩
    exact HBB.out.grown (grownBy_putObj' W D _) HBB.out.size (fun g e => by injection e; omega)

end Go.Proofs.YtbiggilheicfjaaDoor
