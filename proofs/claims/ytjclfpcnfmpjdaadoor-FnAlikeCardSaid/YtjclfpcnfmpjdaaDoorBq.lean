/- It is proved that a range over maps.Keys of the map of lists meets the map's keys, each once, in some order; conditions: those of each statement. -/
import Derived.Sort.MapsRangeIn
import Derived.RowKit
import Derived.Laws.CopyRow
import Derived.Lib.SlBuf
import Derived.Deep.QuietTactic
import Derived.RangeFuncNested
import Derived.RangeFuncBound
import Derived.RangeFuncCalls
import Derived.RangeFuncLeaves
import Derived.RangeFuncBox
import Derived.RangeFuncWrites
import Derived.StillTailTactics
import Derived.Maps.OwnIn
import Derived.Maps.Ext
import Derived.DeepKeys4
import Derived.MapKept
import Derived.Test.YtjclfpcnfmpjdaaDoorRows
import Derived.WalkKit
import Derived.WalkSpells
import Derived.ProofKit
import Derived.OpenShut
import Derived.ShutString
import Derived.ChangeOld
import Derived.Below
import Derived.Deep.RegionHeld3
import Derived.BigQuiet
import Derived.Lib.Hide
import Derived.Lib.SmallJoins
import Derived.Outline
import Derived.Laws.MakeOwn
import Derived.Laws.OwnMore
import Derived.IntWalk
import Derived.Lib.AppendZeros
import Derived.Maps.AppendAt
import Derived.Deep.AppendLies
import Derived.OwnWalk
import Derived.Lib.SlicesCompact
import Derived.Lib.OwnBridge
import Derived.OrdersIn
import Derived.TacticsIn
import Derived.Shelf.Sort.Plain
import Derived.Shelf.Slices.In.SortNone
import Derived.Shelf.Slices.CompactI
import Derived.Ground.Names2Prog
import Derived.Shelf.Abstract
import Derived.Shelf.RegionOpen
import Derived.OwnWalkIn
import Derived.TacticsInMore
import Derived.LoopNIn
import Derived.LoopIn
import Derived.StillTail
import Derived.StillTactics
import Derived.Shelf.Spec.TrailingZeros
import Derived.Test.YtjclfpcnfmpjdaaDoorMsa
import Derived.Test.YtjclfpcnfmpjdaaDoorMsb
namespace Go.Proofs.YtjclfpcnfmpjdaaDoor
open Go.RowKit Go.Shelf Go.Maps

/-- What has come of the keys. -/
def CollK (D : DataW Unit) (left : Lit → Bool) (ss : List (List Int)) : Prop := ss.Nodup ∧ (∀ K ∈ ss, WfK K) ∧ ∀ K, WfK K → (K ∈ ss ↔ (Maps.has D (keyLit K) = true ∧ left (keyLit K) = false))

theorem collK_start (D : DataW Unit) : CollK D (Maps.has D) [] := ⟨List.nodup_nil, by simp, fun K _ => by cases Maps.has D (keyLit K) <;> simp⟩
theorem collK_step {D : DataW Unit} {left : Lit → Bool} {ss : List (List Int)} (h : CollK D left ss) {K : List Int} (hK : WfK K) {y : DataW Unit} (hlk : left (keyLit K) = true) (hat : ∀ zd, D.atKey (keyLit K) zd = y) :
    CollK D (fun z => left z && !z.sameKey (keyLit K)) (ss ++ [K]) := by
  have hhas : Maps.has D (keyLit K) = true := has_true_of_atKey hat
  have hnew : K ∉ ss := fun hx => by have := ((h.2.2 K hK).1 hx).2; rw [hlk] at this; cases this
  refine ⟨List.nodup_append.2 ⟨h.1, by simp, fun a ha b hb => by simp at hb; subst hb; exact fun e => hnew (e ▸ ha)⟩, fun M hM => ?_, fun M hM => ?_⟩
  · rcases List.mem_append.1 hM with hM | hM
    · exact h.2.1 M hM
    · simp at hM; subst hM; exact hK
  · by_cases e : M = K
    · subst e
      have hs : (keyLit M).sameKey (keyLit M) = true := WideAt.sameKey_self (keyLit_lit hM)
      simp [hhas, hs]
    · have hs : (keyLit M).sameKey (keyLit K) = false := sameKey_ne (fun h' => e (keyLit_inj hM hK h'))
      simp [h.2.2 M hM, hs, e]

attribute [local go_sem] Oper.semAt_some

/-- A list that may be a key. -/
abbrev KeyS := { K : List Int // WfK K }

def valsK (ys : List KeyS) : List (List Int) := ys.map (·.1)
theorem valsK_snoc (ys : List KeyS) (y : KeyS) : valsK (ys ++ [y]) = valsK ys ++ [y.1] := by simp [valsK]
/-- All keys have come, each once. -/
def CollE (D : DataW Unit) (ss : List (List Int)) : Prop := ss.Nodup ∧ (∀ K ∈ ss, WfK K) ∧ ∀ K, WfK K → (K ∈ ss ↔ Maps.has D (keyLit K) = true)

set_option maxRecDepth 100000 in
set_option maxHeartbeats 2000000 in
theorem keysK1_in (n : Nat) (hn : 1 ≤ n) (l Bm b nn : Nat) (D0 : DataW Unit) (zs : List Int) (L : List (List Nat)) (hTab : TabD zs D0 L) (hwf : ∀ p ∈ L, WfK (keyL zs (nI p))) (J Jx : List KeyS → World → Prop)
    (hY : ∀ pre x W, J pre W → pre.length < Maps.size D0 → YieldAt Fence.wide (n - 1) Tryd.prog l #[.agg (iv x.1)] W fun e W' =>
      (e = .returned (.bool true) ∧ J (pre ++ [x]) W' ∧ KeepsWalks W W') ∨ (e = .returned (.bool false) ∧ Jx (pre ++ [x]) W'))
    (W : World) (hJ : AbidesFrom W.heap.size J) (hm : W.cell? ⟨Bm, 0, none⟩ = some (.map (some b))) (hown : OwnT W b nn D0) (h0 : J [] W) :
    CallsIn Fence.wide n Tryd.prog 97 #[.func (.yield l) #[] #[], .pointer (some ⟨Bm, 0, none⟩)] W fun e W' => (∃ v, e = .returned v) ∧
      ((∃ ys, CollE D0 (valsK ys) ∧ J ys W') ∨ (∃ pre, True ∧ Jx pre W')) := by
  have hu : Tryd.prog.underlying 55 = some (.map 57 78) := by kernel_rfl
  refine callsIn_of_wp Tryd.func97 rfl trivial ?_ rfl
  simp only [Tryd.ntmps97, List.size_toArray, List.length_cons, List.length_nil, Nat.reduceAdd, Nat.reduceSub, Array.replicate_succ, Array.replicate_zero, List.push_toArray, List.append_toArray, List.nil_append, List.cons_append]
  gi_wp2_with (gi_at_range; refine wpListIn_range_own _ rfl _ 55 rfl 57 78 keyLaw hu _ b nn _ rfl hown ?_; intro w0 hrg0 hg0 hs0)
  go_frame
  gi_loopw [3] (fun _ wr => ∃ (left : Lit → Bool) (cnt : Nat) (ss : List KeyS), wr.ranges Tryd.prog 57 rowR b W.heap.size nn D0 left cnt ∧ ss.length + cnt ≤ Maps.size D0 ∧ CollK D0 left (valsK ss) ∧ J ss wr)
    (fun _ wr => wr.rangeLeft b W.heap.size)
  case atStart =>
    exact ⟨_, _, [], hrg0, by simp, collK_start D0, hJ [] W w0 none h0 hg0 (fun r e => by cases e)⟩
  case round =>
    obtain ⟨left, cnt, ss, hrg, hcs, hC, hJs⟩ := hrel
    gi_wp2_with (gi_at_next; refine wpListIn_next_ranges _ rfl _ rfl 57 keyLaw rowR id id (fun key kl hk => ⟨key, rfl⟩) (fun v _ _ => ⟨v, rfl⟩) b W.heap.size nn _ _ _ rfl hrg ?_ ?_)
    · intro hc0 hl0
      gi_wp2
      go_end0
      exact ⟨⟨_, rfl⟩, .inl ⟨ss, ⟨hC.1, hC.2.1, fun K hK => by rw [hC.2.2 K hK, hl0]; simp⟩, hJs⟩⟩
    · intro x c kl yd yp w2 cnt2 hkey hlk hv hat hrg2 hlt hg2 hs2 hen
      obtain ⟨p, hp, rfl⟩ := (hTab.has_ kl).1 (has_true_of_atKey hat)
      have hwk := hwf p hp
      obtain ⟨K, hK⟩ : ∃ K, K = keyL zs (nI p) := ⟨_, rfl⟩
      rw [← hK] at hwk hkey hlk hat hrg2
      have hxe : x = .agg (iv K) := keyLaw.inj hkey (keyLit_key hwk)
      subst hxe
      obtain ⟨u0, u1, u2, u3', u4, u5, u6, u7', hu8⟩ := eight hwk.1
      have hJ2 : J ss w2 := hJ ss wr w2 (some W.heap.size) hJs hg2 (fun r e => by cases e; exact ⟨Nat.le_refl _, hrg.iter_walk⟩)
      have hC2 := collK_step hC hwk hlk hat
      have hJ3 : J ss (w2.alloc (.cells (iv K) 57)) := hJ ss w2 _ none hJ2 (World.grownBy_alloc _ _ _) (by simp)
      have hrg3 := hrg2.of_walks (KeepsWalks.alloc w2 (.cells (iv K) 57))
      have hk2 : KeepsWalks w2 (w2.alloc (.cells (iv K) 57)) := KeepsWalks.alloc w2 _
      have hnc : (w2.alloc (.cells (iv K) 57)).heap[w2.heap.size]? = some (.cells (iv K) 57 (0, 0)) := alloc_new w2 _
      obtain ⟨W2, hW2⟩ : ∃ W2, w2.alloc (.cells (iv K) 57) = W2 := ⟨_, rfl⟩
      rw [hW2] at hJ3 hrg3 hk2 hnc
      obtain ⟨fn, tmps, assign, body, hy, hR⟩ := hY ss ⟨K, hwk⟩ _ hJ3 (by omega)
      dsimp only at hy
      have HC2 := Lib.hid hC2
      have HRG := Lib.hid hrg3
      have HLT := Lib.hid hlt
      have HRL := Lib.hid hrg.left_eq
      have hen' : (Instr.entry (.pointer (some ⟨W.heap.size, 0, none⟩))).run Tryd.prog w2 = .ok (.tuple #[.agg (iv K), c]) w2 := hen
      rw [hu8, show iv [u0, u1, u2, u3', u4, u5, u6, u7'] = #[.int .i64 u0, .int .i64 u1, .int .i64 u2, .int .i64 u3', .int .i64 u4, .int .i64 u5, .int .i64 u6, .int .i64 u7'] from rfl] at hen' hy hW2 hnc
      show wpListIn _ _ _ _ _ _ { tmps := #[_, _, _, _, _, _, .tuple #[.bool true, .agg (iv K), c], _, _, _, _, _, _, _], defers := [] } _
      rw [hu8, show iv [u0, u1, u2, u3', u4, u5, u6, u7'] = #[.int .i64 u0, .int .i64 u1, .int .i64 u2, .int .i64 u3', .int .i64 u4, .int .i64 u5, .int .i64 u6, .int .i64 u7'] from rfl]
      clear hs2 hen hC2 hrg3 hJ3 hJ2 hrg2 hg2 hlt hC hrg hJs hJ hY
      have k0 := blk_cell hnc 0
      have k1 := blk_cell hnc 1
      have k2 := blk_cell hnc 2
      have k3 := blk_cell hnc 3
      have k4 := blk_cell hnc 4
      have k5 := blk_cell hnc 5
      have k6 := blk_cell hnc 6
      have k7 := blk_cell hnc 7
      clear hk2 hnc
      gi_wp2
      refine hR.mono ?_
      rintro e W3 (⟨rfl, hJ4, hk3⟩ | ⟨rfl, hJx3⟩)
      · gi_wp2
        have hrg4 := HRG.out.of_walks hk3
        go_roundw
        case rel => exact ⟨_, cnt2, ss ++ [⟨K, hwk⟩], hrg4, by have := HLT.out; simp; omega, by rw [valsK_snoc]; exact HC2.out, hJ4⟩
        case measure => rw [hrg4.left_eq, HRL.out]; exact HLT.out
      · gi_wp2
        refine bodyPost_ret (results_none rfl _ _ _) rfl ?_
        exact ⟨⟨_, rfl⟩, .inr ⟨_, trivial, hJx3⟩⟩

theorem keysK_stops (n : Nat) (hn : 1 ≤ n) (Bm b nn : Nat) (D0 : DataW Unit) (zs : List Int) (L : List (List Nat)) (hTab : TabD zs D0 L) (hwf : ∀ p ∈ L, WfK (keyL zs (nI p))) (w : World) (hBm : Bm < w.heap.size)
    (hm : w.cell? ⟨Bm, 0, none⟩ = some (.map (some b))) (hown : OwnT w b nn D0) :
    SeqStopsK Fence.wide n Tryd.prog 97 #[.pointer (some ⟨Bm, 0, none⟩)] (fun x : KeyS => #[.agg (iv x.1)]) KeepsWalks (fun ys => CollE D0 (valsK ys)) (fun _ => True) (Maps.size D0) w := fun l J Jx W hW hJ _ hY h0 => by
  have hown' : OwnT W b nn D0 := by
    have hbl := hown.lt
    obtain ⟨es, clock, hb, Ft, hs, hD⟩ := hown
    exact ⟨es, clock, (hW.block b hbl).trans hb, Ft, hs, hD⟩
  exact keysK1_in n hn l Bm b nn D0 zs L hTab hwf J Jx hY W hJ ((hW.cell (p := ⟨Bm, 0, none⟩) hBm).trans hm) hown' h0

end Go.Proofs.YtjclfpcnfmpjdaaDoor
