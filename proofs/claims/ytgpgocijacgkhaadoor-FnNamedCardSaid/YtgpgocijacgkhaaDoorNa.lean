/- It is proved what named and its closure return; conditions: those of each statement. -/
import Derived.Test.YtgpgocijacgkhaaDoorRows
import Derived.WalkKit
import Derived.WalkSpells
import Derived.ProofKit
import Derived.OpenShut
import Derived.ShutString
import Derived.ChangeOld
import Derived.Below
import Derived.Deep.RegionHeld3
import Derived.Deep.QuietTactic
import Derived.BigQuiet
import Derived.Lib.Hide
import Derived.Lib.SmallJoins
import Derived.Outline
import Derived.Laws.MakeOwn
import Derived.Laws.OwnMore
import Derived.IntWalk
import Derived.RangeFuncNested
import Derived.RangeFuncBound
import Derived.RangeFuncCalls
import Derived.RangeFuncLeaves
import Derived.RangeFuncBox
import Derived.Shelf.Abstract
import Derived.Shelf.RegionOpen
import Derived.OwnWalkIn
import Derived.TacticsInMore
import Derived.LoopNIn
import Derived.LoopIn
import Derived.Maps.AppendAt
import Derived.Deep.AppendLies
import Derived.OwnWalk
import Derived.StillTail
import Derived.StillTactics
import Derived.OrdersIn
import Derived.TacticsIn
import Derived.Shelf.Spec.TrailingZeros
import Derived.Test.YtgpgocijacgkhaaDoorRaaa
import Derived.Test.YtgpgocijacgkhaaDoorRaab
import Derived.Test.YtgpgocijacgkhaaDoorRaal
import Derived.Test.YtgpgocijacgkhaaDoorRaac
import Derived.Test.YtgpgocijacgkhaaDoorTb
import Derived.Test.YtgpgocijacgkhaaDoorRaae
namespace Go.Proofs.YtgpgocijacgkhaaDoor
open Go.RowKit Go.Shelf

attribute [local go_sem] Oper.semAt_some

/-- Members called by names, as a set. -/
def nm (ps : List Int) (us : List Nat) : Nat := us.foldl (fun t v => t ||| 2 ^ (ps[v]?.getD 0).toNat) 0

theorem nm_snoc (ps : List Int) (us : List Nat) (u : Nat) : nm ps (us ++ [u]) = nm ps us ||| 2 ^ (ps[u]?.getD 0).toNat := by simp [nm]
theorem nm_lt (ps : List Int) (us : List Nat) (h : ∀ v ∈ us, (ps[v]?.getD 0).toNat < 6) : nm ps us < 64 := by
  have : ∀ t, t < 64 → us.foldl (fun t v => t ||| 2 ^ (ps[v]?.getD 0).toNat) t < 64 := by
    induction us with
    | nil => intro t ht; exact ht
    | cons x us ih =>
      intro t ht
      rw [List.foldl_cons]
      exact ih (fun y hy => h y (by simp [hy])) _ (Nat.or_lt_two_pow (n := 6) ht (Nat.pow_lt_pow_right (by decide) (h x (by simp))))
  exact this 0 (by decide)

/-- A set called by names. -/
def called (ps : List Int) (s : Nat) : Nat := nm ps (mem s)

/-- Names that may be called: one for each member, below six. -/
structure Okp (m : Nat) (ps : List Int) : Prop where
  len : ps.length = m
  rng : ∀ v, v < m → 0 ≤ ps[v]?.getD 0 ∧ ps[v]?.getD 0 < 6

set_option maxRecDepth 100000 in
set_option maxHeartbeats 4000000 in
theorem named_any (m s : Nat) (hm : m ≤ 6) (hs : s < 2 ^ m) (a : Option Addr) (c : Nat) (ps : List Int) (hp : Okp m ps) (w : World) (ha : Ints w w.heap.size a ps) (hT : Tab w) :
    Calls Tryd.prog 55 #[.int .i64 (s : Int), .slice a ps.length c] w fun e w' => e = .returned (.int .i64 ((called ps s : Nat) : Int)) ∧ Below w.heap.size w w' := by
  have HA := Lib.hid ha
  have HT := Lib.hid hT
  have HP := Lib.hid hp
  obtain ⟨n, hn⟩ : ∃ n, n = ps.length := ⟨_, rfl⟩
  have hnm : n = m := by rw [hn]; exact hp.len
  have HN := Lib.hid hn
  rw [← hn]
  clear ha hT hn hp
  refine (callsIn_wide (n := 6)).1 ?_
  refine callsIn_of_wp_marks Tryd.func55 rfl trivial ?_ rfl
  simp only [Tryd.ntmps55, List.size_toArray, List.length_cons, List.length_nil, Nat.reduceAdd, Nat.reduceSub, Array.replicate_succ, Array.replicate_zero, List.push_toArray, List.append_toArray, List.nil_append, List.cons_append]
  gi_wp2_with (refine ⟨trivial, ?_⟩; gi_at_call 46; refine (callsIn_wide.2 (members_any _ _)).mono ?_; rintro e w' ⟨rfl, rfl⟩)
  have h16 : 1 ≤ 6 := by omega
  have hmx : Tryd.prog.follows .mixedOrders = true := by kernel_rfl
  have hb3 := below3 w (.cells #[.slice a m c] 23) (.cells #[.int .i64 0] 54) (.cells #[.int .i64 (s : Int)] 54)
  have q0 : HasBlk (((w.alloc (.cells #[.slice a m c] 23)).alloc (.cells #[.int .i64 0] 54)).alloc (.cells #[.int .i64 (s : Int)] 54)) w.heap.size #[.slice a m c] 23 := alloc3_0 w _ _ _
  have q1 : Boxed (((w.alloc (.cells #[.slice a m c] 23)).alloc (.cells #[.int .i64 0] 54)).alloc (.cells #[.int .i64 (s : Int)] 54)) (w.heap.size + 1) 54 (.int .i64 ((nm ps (vals ([] : List (Mem m))) : Nat) : Int)) := alloc3_1 w _ _ _
  have hst := members_stops (6 - 1) (by omega) (w.heap.size + 1 + 1) (w.heap.size + 1) m s hm hs (((w.alloc (.cells #[.slice a m c] 23)).alloc (.cells #[.int .i64 0] 54)).alloc (.cells #[.int .i64 (s : Int)] 54)) (by simp) (by simp) (by have := HT.out.lt; omega)
    ((blk_cell (alloc3_2 w _ _ _) 0).trans (cell1_0 _)) (HT.out.below hb3 HT.out.lt)
  have HBB := Lib.hid hb3
  obtain ⟨Wo, hWo⟩ : ∃ Wo, ((w.alloc (.cells #[.slice a m c] 23)).alloc (.cells #[.int .i64 0] 54)).alloc (.cells #[.int .i64 (s : Int)] 54) = Wo := ⟨_, rfl⟩
  have hso : Wo.heap.size = w.heap.size + 3 := by rw [← hWo]; simp
  rw [hWo] at hst q0 q1 HBB ⊢
  have HSO := Lib.hid hso
  have Q0 := Lib.hid q0
  clear hWo hb3 hso q0
  refine wpIn_rangeFunc_ownG rfl h16 (gf := 78) (lb := #[.pointer (some ⟨w.heap.size + 1 + 1, 0, none⟩)]) rfl trivial (enters_of Tryd.func78 (by kernel_rfl) rfl)
    hst belowK_t (belowK_b (by have := HSO.out; omega)) (Below.refl _ _) (fun _ => rfl)
    (fun us W => Boxed W (w.heap.size + 1) 54 (.int .i64 ((nm ps (vals us) : Nat) : Int)) ∧ Below (w.heap.size + 1) Wo W)
    (fun _ _ _ => False)
    (OwnFrom.and (Own.from (boxed_own _ _ (fun us : List (Mem m) => Value.int .i64 ((nm ps (vals us) : Nat) : Int))) _) (ownFrom_below (by have := HSO.out; omega) (by have := HSO.out; omega)))
    (fun _ _ _ _ _ hs _ _ => hs)
    ⟨q1, Below.refl _ _⟩
    (fun x => { tmps := #[.int .i64 (s : Int), .slice a m c, undef, .pointer (some ⟨w.heap.size, 0, none⟩), .int .i64 0, .pointer (some ⟨w.heap.size + 1, 0, none⟩), .int .i64 (x.1 : Int), .int .i64 (s : Int), .func (.func 78) #[] #[.pointer (some ⟨w.heap.size + 1 + 1, 0, none⟩)], .int .i64 (x.1 : Int), undef, undef, undef, undef, undef, undef, undef], defers := [] }) ?assign ?body ?done ?stop
  case assign =>
    intro l x W K hK
    gi_wp2
    exact hK
  case body =>
    rintro l us x W ⟨hv, hB⟩ hlt
    obtain ⟨u, hu⟩ := x
    have q0 := (hB.block w.heap.size (by omega)).trans Q0.out
    have c0 := (blk_cell q0 0).trans (cell1_0 _)
    have c1 := hv.cell
    have cf := hv.frozen
    have hru := HP.out.rng u hu
    obtain ⟨pu, hpu⟩ : ∃ pu : Nat, ps[u]?.getD 0 = (pu : Int) := ⟨(ps[u]?.getD 0).toNat, by omega⟩
    have hp6 : pu < 8 := by omega
    obtain ⟨b1, o1, rfl, hb1, hc1⟩ := HA.out.at_ (k := u) (by rw [← HN.out]; omega)
    rw [hpu] at hc1
    have v1 := (hB.cell (p := ⟨b1, o1 + u, none⟩) (show b1 < w.heap.size + 1 by omega)).trans ((HBB.out.cell (p := ⟨b1, o1 + u, none⟩) hb1).trans hc1)
    obtain ⟨d, hd⟩ : ∃ d, d = nm ps (vals us) := ⟨_, rfl⟩
    have hd8 : d < 256 := by
      have := nm_lt ps (vals us) (by
        intro v hv
        obtain ⟨y, _, rfl⟩ := List.mem_map.1 hv
        have := HP.out.rng y.1 y.2
        omega)
      omega
    rw [← hd] at c1
    have hu0 : (0 : Int) ≤ (u : Int) := by omega
    have hu1 : (u : Int) < (m : Int) := by omega
    have HV := Lib.hid hv
    have HB := Lib.hid hB
    have HD := Lib.hid hd
    have HPU := Lib.hid hpu
    clear hv hB q0 hc1 hd hpu hru
    gi_wp2
    refine wpIn_region_still_tail_o (Fence.Open.wide.inRound l) 6 hmx (by kernel_rfl) (by kernel_rfl) ?_
    simp only [List.take_succ_cons, List.take_zero, List.drop_succ_cons, List.drop_zero]
    repeat still_step
    still_call ((with_any d pu hd8 hp6 _).mono fun _ _ h => ⟨h.1, h.2.symm⟩)
    repeat still_step
    refine wpStill_nil ?_
    change wpListIn _ _ _ _ _ _ _ W.drew
    gi_wp2
    refine ⟨((KeepsOthers.setCell _ _ _).trans (KeepsOthers.drew _)).from _, ((Below.refl _ W).setCell (p := ⟨w.heap.size + 1, 0, none⟩) (Nat.le_refl _) _).drew, ?_, (HB.out.setCell (p := ⟨w.heap.size + 1, 0, none⟩) (Nat.le_refl _) _).drew⟩
    rw [vals_snoc, nm_snoc, HPU.out, Int.toNat_natCast, ← HD.out]
    exact HV.out.set _
  case done =>
    rintro D us W hD hus ⟨hv, hB⟩ hK
    have hu2 : vals us = mem s := hus
    rw [hu2] at hv
    have c1 := hv.cell
    have HBW := Lib.hid hB
    clear hv hB
    gi_wp2
    refine ⟨by simp, .inl ⟨_, _, rfl, run_takeDeferred hK, ?_⟩⟩
    exact ⟨_, results_tmp rfl _ _ _, rfl, (HBB.out.trans (HBW.out.mono (by omega))).trans (belowK_b (w := w) (Nat.le_refl _) W D _ _ (by have := HSO.out; omega) hK rfl rfl)⟩
  case stop =>
    rintro D c pre W _ _ h _
    exact h.elim

set_option maxRecDepth 100000 in
set_option maxHeartbeats 1000000 in
/-- The closure of FamilyNamed: it reads the names out of their variable. -/
theorem namedFn_any (m s : Nat) (hm : m ≤ 6) (hs : s < 2 ^ m) (a : Option Addr) (c : Nat) (ps : List Int) (hp : Okp m ps) (X : Nat) (W : World) (hX : W.cell? ⟨X, 0, none⟩ = some (.slice a ps.length c)) (ha : Ints W W.heap.size a ps) (hT : Tab W) :
    Calls Tryd.prog 54 #[.int .i64 (s : Int), .pointer (some ⟨X, 0, none⟩)] W fun e W' => e = .returned (.int .i64 ((called ps s : Nat) : Int)) ∧ Below W.heap.size W W' := by
  have HA := Lib.hid ha
  have HT := Lib.hid hT
  clear ha hT
  go_enter Tryd.func54, Tryd.ntmps54
  go_wp2_with fail
  refine (named_any m s hm hs a c ps hp _ HA.out HT.out).mono ?_
  rintro e W' ⟨rfl, hb⟩
  have HB := Lib.hid hb
  clear hb
  go_wp2
  go_ret
  exact ⟨rfl, HB.out⟩

end Go.Proofs.YtgpgocijacgkhaaDoor
