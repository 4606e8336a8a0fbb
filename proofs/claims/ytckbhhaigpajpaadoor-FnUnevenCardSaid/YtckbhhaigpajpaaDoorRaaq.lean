/- It is proved what the iterator over a set's members yields, each member known to be one; conditions: those of each statement. -/
import Derived.RowKit
import Derived.RangeFuncNested
import Derived.RangeFuncBound
import Derived.RangeFuncCalls
import Derived.RangeFuncLeaves
import Derived.RangeFuncBox
import Derived.RangeFuncWrites
import Derived.Test.YtckbhhaigpajpaaDoorRows
import Derived.WalkKit
import Derived.WalkSpells
import Derived.ProofKit
import Derived.OpenShut
import Derived.ShutString
import Derived.ChangeOld
import Derived.Below
import Derived.Deep.RegionHeld3
import Derived.Deep.QuietTactic
import Derived.BigQuiet
import Derived.Lib.Hide
import Derived.Lib.SmallJoins
import Derived.Outline
import Derived.Laws.MakeOwn
import Derived.Laws.OwnMore
import Derived.IntWalk
import Derived.Shelf.Abstract
import Derived.Shelf.RegionOpen
import Derived.OwnWalkIn
import Derived.TacticsInMore
import Derived.LoopNIn
import Derived.LoopIn
import Derived.Maps.AppendAt
import Derived.Shelf.Spec.TrailingZeros
import Derived.Test.YtckbhhaigpajpaaDoorRaae
import Derived.Test.YtckbhhaigpajpaaDoorRaaf
import Derived.Laws.CopyRow
import Derived.Lib.SlBuf
import Derived.StillTailTactics
import Derived.Deep.AppendLies
import Derived.OwnWalk
import Derived.StillTail
import Derived.StillTactics
import Derived.OrdersIn
import Derived.TacticsIn
import Derived.Test.YtckbhhaigpajpaaDoorRaab
import Derived.Test.YtckbhhaigpajpaaDoorRaac
import Derived.Test.YtckbhhaigpajpaaDoorJl
import Derived.Test.YtckbhhaigpajpaaDoorRaad
import Derived.Maps.OwnIn
import Derived.Maps.Ext
import Derived.DeepKeys4
import Derived.MapKept
import Derived.Lib.AppendZeros
import Derived.Lib.SlicesCompact
import Derived.Lib.OwnBridge
import Derived.Shelf.Sort.Plain
import Derived.Shelf.Slices.In.SortNone
import Derived.Shelf.Slices.CompactI
import Derived.Ground.Names2Prog
import Derived.Lib.SliceRun
namespace Go.Proofs.YtckbhhaigpajpaaDoor
open Go.RowKit Go.Shelf

attribute [local go_sem] Oper.semAt_some

/-- A member of s. -/
abbrev MemS (s : Nat) := { v : Nat // v ∈ mem s }

def valsS {s : Nat} (ys : List (MemS s)) : List Nat := ys.map (·.1)
theorem valsS_snoc {s : Nat} (ys : List (MemS s)) (y : MemS s) : valsS (ys ++ [y]) = valsS ys ++ [y.1] := by simp [valsS]
set_option maxRecDepth 100000 in
set_option maxHeartbeats 2000000 in
theorem membersS1_in (n : Nat) (hn : 1 ≤ n) (l Bs n₀ s : Nat) (hs64 : s < 64) (J Jx : List (MemS s) → World → Prop)
    (hY : ∀ pre x W, J pre W → pre.length < 6 → YieldAt Fence.wide (n - 1) Tryd.prog l #[.int .i64 (x.1 : Int)] W fun e W' =>
      (e = .returned (.bool true) ∧ J (pre ++ [x]) W' ∧ Below n₀ W W') ∨ (e = .returned (.bool false) ∧ Jx (pre ++ [x]) W'))
    (W : World) (hBs : W.cell? ⟨Bs, 0, none⟩ = some (.int .i64 (s : Int))) (hT : Tab W) (hn0 : 1 < n₀) (h0 : J [] W) :
    CallsIn Fence.wide n Tryd.prog 96 #[.func (.yield l) #[] #[], .pointer (some ⟨Bs, 0, none⟩)] W fun e W' => (∃ v, e = .returned v) ∧
      ((∃ ys, valsS ys = mem s ∧ J ys W') ∨ (∃ pre, valsS pre <+: mem s ∧ Jx pre W')) := by
  have hss : (s : Int) < 64 := by omega
  refine callsIn_of_wp Tryd.func96 rfl trivial ?_ rfl
  simp only [Tryd.ntmps96, List.size_toArray, List.length_cons, List.length_nil, Nat.reduceAdd, Nat.reduceSub, Array.replicate_succ, Array.replicate_zero, List.push_toArray, List.append_toArray, List.nil_append, List.cons_append]
  gi_wp2
  gi_loopw [3] (fun r wr => ∃ (t : Nat) (pre : List (MemS s)), t < 64 ∧ valsS pre ++ mem t = mem s ∧ r = .int .u64 (t : Int) ∧ J pre wr ∧ Below n₀ W wr)
    (fun r _ => (intOf r).toNat)
  case atStart => exact ⟨s, [], hs64, by simp [valsS], rfl, h0, Below.refl _ _⟩
  case round =>
    obtain ⟨t, pre, ht, hpre, rfl, hJs, hnx⟩ := hrel
    by_cases h0 : t = 0
    · subst h0
      rw [mem_zero, List.append_nil] at hpre
      gi_wp2
      go_end0
      exact ⟨⟨_, rfl⟩, .inl ⟨pre, hpre, hJs⟩⟩
    · have hc := mem_cons t ht h0
      rw [hc] at hpre
      have hk : Lib.ctz 64 t ∈ mem s := by rw [← hpre]; simp
      have hlen : pre.length < 6 := by
        have h1 := mem_length s hs64
        rw [← hpre] at h1
        simp [valsS] at h1
        omega
      have HA := Lib.hid (low_and t h0 ht)
      have hT2 : Tab wr := hT.below hnx hn0
      have hpre' : valsS (pre ++ [(⟨Lib.ctz 64 t, hk⟩ : MemS s)]) ++ mem (t &&& (t - 1)) = mem s := (by rw [valsS_snoc, List.append_assoc]; exact hpre)
      have hlt : t &&& (t - 1) < t := by have := @Nat.and_le_right t (t - 1); omega
      obtain ⟨fn, tmps, assign, body, hy, hR⟩ := hY _ ⟨Lib.ctz 64 t, hk⟩ wr hJs hlen
      dsimp only at hy
      have ht0 : (0 : Int) < (t : Int) := by omega
      clear hc hpre
      gi_wp2
      refine ⟨trivial, (callsIn_wide.2 (tz_any t h0 ht _ hT2)).mono ?_⟩
      rintro e w' ⟨rfl, rfl⟩
      gi_wp2
      refine hR.mono ?_
      rintro e W3 (⟨rfl, hJ3, hk3⟩ | ⟨rfl, hJx3⟩)
      · gi_wp2
        go_roundw
        case rel => exact ⟨t &&& (t - 1), _, by omega, hpre', by rw [HA.out], hJ3, hnx.trans hk3⟩
        case measure => rw [HA.out]; simp only [intOf]; omega
      · gi_wp2
        refine bodyPost_ret (results_none rfl _ _ _) rfl ?_
        exact ⟨⟨_, rfl⟩, .inr ⟨_, ⟨mem (t &&& (t - 1)), hpre'⟩, hJx3⟩⟩

theorem membersS_stops (n : Nat) (hn : 1 ≤ n) (Bs n₀ s : Nat) (hs : s < 64) (w : World) (hBs : Bs < w.heap.size) (hn₀ : n₀ ≤ w.heap.size) (hn1 : 1 < n₀)
    (hc : w.cell? ⟨Bs, 0, none⟩ = some (.int .i64 (s : Int))) (hT : Tab w) :
    SeqStopsK Fence.wide n Tryd.prog 96 #[.pointer (some ⟨Bs, 0, none⟩)] (fun x : MemS s => #[Value.int .i64 (x.1 : Int)]) (Below n₀) (fun ys => valsS ys = mem s)
      (fun pre => valsS pre <+: mem s) 6 w := fun l J Jx W hW _ _ hY h0 =>
  membersS1_in n hn l Bs n₀ s hs J Jx hY W ((hW.cell (p := ⟨Bs, 0, none⟩) hBs).trans hc) (hT.below hW (by omega)) hn1 h0

theorem yield_any {m : Nat} (m' : Nat) {P : Program} {l : Nat} {args : Array Value} {W : World} {R : Ending → World → Prop} (h : YieldAt Fence.wide m P l args W R) : YieldAt Fence.wide m' P l args W R := by
  obtain ⟨fn, tmps, assign, body, hy, hR⟩ := h
  exact ⟨fn, tmps, assign, body, hy, hR.1, fun c cs _ => hR.2 c cs (room_wide _)⟩

end Go.Proofs.YtckbhhaigpajpaaDoor

/- It is proved what allNames yields; conditions: those of each statement. -/
namespace Go.Proofs.YtckbhhaigpajpaaDoor
open Go.RowKit Go.Shelf

theorem store_new (w : World) (n : Nat) (hn : n = w.heap.size) (u v : Value) (t : TypeId) (hv : v.oneCell' = true) : (store ⟨n, 0, none⟩ v).run Tryd.prog (w.alloc (.cells #[u] t)) = .ok () (w.alloc (.cells #[v] t)) := by
  subst hn
  have q : Boxed (w.alloc (.cells #[u] t)) w.heap.size t u := Boxed.new w t u
  rw [run_store _ _ _ _ _ hv, q.cell]
  simp only [q.frozen]
  rw [World.setCell_alloc_new]
  rfl

end Go.Proofs.YtckbhhaigpajpaaDoor

/- It is proved what the iterator over all colours yields; conditions: those of each statement. -/
namespace Go.Proofs.YtckbhhaigpajpaaDoor
open Go.RowKit Go.Shelf

attribute [local go_sem] Oper.semAt_some

theorem Tryd.infCB : (Tryd.prog.info? 4).map (fun i => (i.zero, i.size, i.bytes)) = some (some (Value.bool (false)), 1, 1) := by kernel_rfl
theorem underCB : Tryd.prog.underlying 55 = some (.slice 4) := by kernel_rfl
theorem run_makeCB (m : Nat) (hm : m ≤ 6) (w : World) : (Instr.makeSlice 55 (.int .i64 (m : Int)) (.int .i64 (m : Int))).run Tryd.prog w = .ok (.slice (some ⟨w.heap.size, 0, none⟩) m m) (w.alloc (.cells (Array.replicate m (Value.bool (false))) 4)) := by
  obtain ⟨i0, hi0, hz0, hz1, hz2⟩ := info_parts Tryd.infCB
  have := run_make (P := Tryd.prog) w 55 4 i0 (Value.bool (false)) underCB hi0 hz0 .i64 .i64 (m : Int) (m : Int) (by omega) (Int.le_refl _) (by rw [hz2]; omega) (by omega)
  rw [this, hz1]
  have e : madeCells ((Value.bool (false)) : Value).cells ((m : Int).toNat * 1) = Array.replicate m (Value.bool (false)) := by
    apply Array.toList_inj.1
    rw [show ((Value.bool (false)) : Value).cells = #[(Value.bool (false))] from rfl, toList_madeCells_one]; simp
  rw [e]; rfl

set_option maxRecDepth 100000 in
set_option maxHeartbeats 4000000 in
theorem allCol1_inB (n Bm Bp pb pc m : Nat) (hm : m ≤ 6) (pal : List Bool) (hpl : pal.length ≤ 6) (X : Nat → Prop) (w : World) (hBm : Bm < w.heap.size) (hBp : Bp < w.heap.size) (hpb : pb < w.heap.size) (hXm : ¬ X Bm) (hXq : ¬ X Bp) (hXp : ¬ X pb)
    (cm : Boxed w Bm 3 (.int .i64 (m : Int))) (cq : Boxed w Bp 54 (.slice (some ⟨pb, 0, none⟩) pal.length pc)) (cp : ∀ j, j < pal.length → w.cell? ⟨pb, j, none⟩ = some (Value.bool (pal[j]?.getD false))) :
    SeqBut n Tryd.prog 81 #[.pointer (some ⟨Bm, 0, none⟩), .pointer (some ⟨Bp, 0, none⟩)] (fun x : Value × List Bool => #[x.1]) X (OkVB m) (fun xs => xs.map (·.2) = wordsL pal m) (fun pre => pre.map (·.2) <+: wordsL pal m ∧ pre ≠ []) (pal.length ^ m) w := by
  intro l J Jx W hW hl1 hl2 hX hJ hJx hY h0
  refine callsIn_wide.2 ?_
  have hsW : w.heap.size ≤ W.heap.size := hW.size
  have cmW : Boxed W Bm 3 (.int .i64 (m : Int)) := (hW.block _ hBm).trans cm
  have cqW : Boxed W Bp 54 (.slice (some ⟨pb, 0, none⟩) pal.length pc) := (hW.block _ hBp).trans cq
  have cpW : ∀ j, j < pal.length → W.cell? ⟨pb, j, none⟩ = some (Value.bool (pal[j]?.getD false)) := fun j hj => (hW.cell (p := ⟨pb, j, none⟩) hpb).trans (cp j hj)
  have hmk := run_makeCB m hm
  obtain ⟨W4, hW4, q0, q1, q2, q3, hs4, hb4⟩ : ∃ W4, (((W.alloc (.cells #[.func (.yield l) #[] #[]] 86)).alloc (.cells (Array.replicate m (Value.bool (false))) 4)).alloc (.cells #[.slice (some ⟨W.heap.size + 1, 0, none⟩) m m] 55)).alloc (.cells #[.func (.func 82) #[] #[.pointer (some ⟨Bm, 0, none⟩), .pointer (some ⟨W.heap.size, 0, none⟩), .pointer (some ⟨W.heap.size + 1 + 1, 0, none⟩), .pointer (some ⟨Bp, 0, none⟩), .pointer (some ⟨W.heap.size + 1 + 1 + 1, 0, none⟩)]] 83) = W4 ∧
      HasBlk W4 W.heap.size #[.func (.yield l) #[] #[]] 86 ∧ HasBlk W4 (W.heap.size + 1) (Array.replicate m (Value.bool (false))) 4 ∧ HasBlk W4 (W.heap.size + 1 + 1) #[.slice (some ⟨W.heap.size + 1, 0, none⟩) m m] 55 ∧
      HasBlk W4 (W.heap.size + 1 + 1 + 1) #[.func (.func 82) #[] #[.pointer (some ⟨Bm, 0, none⟩), .pointer (some ⟨W.heap.size, 0, none⟩), .pointer (some ⟨W.heap.size + 1 + 1, 0, none⟩), .pointer (some ⟨Bp, 0, none⟩), .pointer (some ⟨W.heap.size + 1 + 1 + 1, 0, none⟩)]] 83 ∧ W4.heap.size = W.heap.size + 1 + 1 + 1 + 1 ∧ Below W.heap.size W W4 := by
    refine ⟨_, rfl, ?_, ?_, ?_, ?_, by simp, (below3 W _ _ _).alloc (by simp; omega) _⟩
    · exact (alloc_old _ _ _ (by simp <;> omega)).trans (alloc3_0 W _ _ _)
    · exact (alloc_old _ _ _ (by simp <;> omega)).trans (alloc3_1 W _ _ _)
    · exact (alloc_old _ _ _ (by simp <;> omega)).trans (alloc3_2 W _ _ _)
    · unfold HasBlk
      have := alloc_new (((W.alloc (.cells #[.func (.yield l) #[] #[]] 86)).alloc (.cells (Array.replicate m (Value.bool (false))) 4)).alloc (.cells #[.slice (some ⟨W.heap.size + 1, 0, none⟩) m m] 55)) (.cells #[.func (.func 82) #[] #[.pointer (some ⟨Bm, 0, none⟩), .pointer (some ⟨W.heap.size, 0, none⟩), .pointer (some ⟨W.heap.size + 1 + 1, 0, none⟩), .pointer (some ⟨Bp, 0, none⟩), .pointer (some ⟨W.heap.size + 1 + 1 + 1, 0, none⟩)]] 83)
      simp only [World.size_alloc] at this
      exact this
  have hJ4 : J [] W4 := by
    rw [← hW4]
    exact hJ.alloc _ (hJ.alloc _ (hJ.alloc _ (hJ.alloc _ h0)))
  have hO4 : CSB Bm W.heap.size (W.heap.size + 1 + 1) Bp (W.heap.size + 1 + 1 + 1) (W.heap.size + 1) pb pc l m w.heap.size pal W4 [] :=
    ⟨(hb4.block _ (by omega)).trans cmW, q0, q2, (hb4.block _ (by omega)).trans cqW, q3, ⟨List.replicate m false, by simp, by simp, by simpa using q1⟩, hpb, fun j hj => (hb4.cell (p := ⟨pb, j, none⟩) (show pb < W.heap.size by omega)).trans (cpW j hj)⟩
  have LL : CLiesB Bm W.heap.size (W.heap.size + 1 + 1) Bp (W.heap.size + 1 + 1 + 1) (W.heap.size + 1) pb l w.heap.size W.heap.size X :=
    ⟨hl2, hX, hl1, hBm, hBp, hpb, hXm, hXq, hXp, by omega, by omega, by omega, by omega, by omega, by omega, by omega⟩
  have IH := colGoB Bm W.heap.size (W.heap.size + 1 + 1) Bp (W.heap.size + 1 + 1 + 1) (W.heap.size + 1) pb l m w.heap.size W.heap.size pc (pal.length ^ m) hm pal hpl X LL hsW J Jx hJ (fun k pre x W1 h1 h2 h3 => yield_any k (hY pre x W1 h1 h2 h3)) m [] [] W4 (by simp) (by simp) hJ4 hO4
  have cg := (blk_cell q3 0).trans (cell1_0 _)
  have cm4 : W4.cell? ⟨Bm, 0, none⟩ = some (.int .i64 (m : Int)) := (hb4.cell (p := ⟨Bm, 0, none⟩) (show Bm < W.heap.size by omega)).trans cmW.cell
  have cmA := ((Below.refl W.heap.size W).alloc (Nat.le_refl _) (.cells #[.func (.yield l) #[] #[]] 86)).cell (p := ⟨Bm, 0, none⟩) (show Bm < W.heap.size by omega)
  rw [cmW.cell] at cmA
  rw [show ((List.length ([] : List Bool) : Nat) : Int) = 0 from rfl] at IH
  have HIH := Lib.hid IH
  have hst := store_new (((W.alloc (.cells #[.func (.yield l) #[] #[]] 86)).alloc (.cells (Array.replicate m (Value.bool (false))) 4)).alloc (.cells #[.slice (some ⟨W.heap.size + 1, 0, none⟩) m m] 55)) (W.heap.size + 1 + 1 + 1) (by simp) .nilFunc (.func (.func 82) #[] #[.pointer (some ⟨Bm, 0, none⟩), .pointer (some ⟨W.heap.size, 0, none⟩), .pointer (some ⟨W.heap.size + 1 + 1, 0, none⟩), .pointer (some ⟨Bp, 0, none⟩), .pointer (some ⟨W.heap.size + 1 + 1 + 1, 0, none⟩)]) 83 rfl
  rw [hW4] at hst
  have hmI : (m : Int) ≤ 6 := by omega
  have hm0 : (0 : Int) ≤ (m : Int) := by omega
  clear IH hJ4 hO4 hY h0 hJ hJx q0 q1 q2 q3 hb4 LL hs4 cmW cqW cpW hsW hW cm cq cp hX
  go_enter Tryd.func81, Tryd.ntmps81
  go_wp2_with fail
  refine HIH.out.mono ?_
  rintro e W5 (⟨rfl, ⟨xs, hxs, hj⟩, -, -⟩ | ⟨rfl, ⟨xs, hxs, hxn, hj⟩, -⟩)
  · have HJ := Lib.hid hj
    have HX := Lib.hid hxs
    clear hj hxs hst hW4 hmk
    go_wp2
    go_end0
    exact ⟨⟨_, rfl⟩, .inl ⟨xs, by rw [HX.out]; simp, by simpa using HJ.out⟩⟩
  · have HJ := Lib.hid hj
    have HX := Lib.hid hxs
    clear hj hxs hst hW4 hmk
    go_wp2
    go_end0
    exact ⟨⟨_, rfl⟩, .inr ⟨xs, ⟨by simpa using HX.out, hxn⟩, by simpa using HJ.out⟩⟩

theorem allColours_anyB (m : Int) (pb pn pc : Nat) (w : World) :
    Calls Tryd.prog 44 #[.int .i64 m, .slice (some ⟨pb, 0, none⟩) pn pc] w fun e w' => e = .returned (.func (.func 81) #[] #[.pointer (some ⟨w.heap.size, 0, none⟩), .pointer (some ⟨w.heap.size + 1, 0, none⟩)]) ∧ w' = (w.alloc (.cells #[.int .i64 m] 3)).alloc (.cells #[.slice (some ⟨pb, 0, none⟩) pn pc] 54) := by
  go_enter Tryd.func44, Tryd.ntmps44
  go_wp2
  go_ret
  exact ⟨rfl, rfl⟩

end Go.Proofs.YtckbhhaigpajpaaDoor

/- It is proved what triedCovers returns; conditions: those of each statement. -/
namespace Go.Proofs.YtckbhhaigpajpaaDoor
open Go.RowKit Go.Shelf

attribute [local go_sem] Oper.semAt_some

theorem HasBlk.ownF {β : Type} {B b : Nat} (hb : b < B) (cs : Array Value) (t : TypeId) : OwnF B (fun (_ : β) W => HasBlk W b cs t) := fun s X Y row hs hg hrow =>
  hs.kept hg (fun e' => by have := (hrow b e').1; omega)

end Go.Proofs.YtckbhhaigpajpaaDoor
