/- It is proved what the iterator over a family's clubs yields; conditions: those of each statement. -/
import Derived.RangeFuncNested
import Derived.RangeFuncBound
import Derived.RangeFuncCalls
import Derived.RangeFuncLeaves
import Derived.RangeFuncBox
import Derived.Shelf.Abstract
import Derived.Shelf.RegionOpen
import Derived.OwnWalkIn
import Derived.TacticsInMore
import Derived.LoopNIn
import Derived.LoopIn
import Derived.Maps.AppendAt
import Derived.Test.YtckbhhaigpajpaaDoorRows
import Derived.WalkKit
import Derived.WalkSpells
import Derived.ProofKit
import Derived.OpenShut
import Derived.ShutString
import Derived.ChangeOld
import Derived.Below
import Derived.Deep.RegionHeld3
import Derived.Deep.QuietTactic
import Derived.BigQuiet
import Derived.Lib.Hide
import Derived.Lib.SmallJoins
import Derived.Outline
import Derived.Laws.MakeOwn
import Derived.Laws.OwnMore
import Derived.IntWalk
import Derived.Test.YtckbhhaigpajpaaDoorRaaa
import Derived.Deep.AppendLies
import Derived.Shelf.Spec.TrailingZeros
import Derived.RowKit
import Derived.Laws.CopyRow
import Derived.Lib.SlBuf
import Derived.RangeFuncWrites
import Derived.StillTailTactics
import Derived.Maps.OwnIn
import Derived.Maps.Ext
import Derived.DeepKeys4
import Derived.MapKept
import Derived.Lib.AppendZeros
import Derived.OwnWalk
import Derived.Lib.SlicesCompact
import Derived.Lib.OwnBridge
import Derived.OrdersIn
import Derived.TacticsIn
import Derived.Shelf.Sort.Plain
import Derived.Shelf.Slices.In.SortNone
import Derived.Shelf.Slices.CompactI
import Derived.Ground.Names2Prog
import Derived.Lib.SliceRun
import Derived.StillTail
import Derived.StillTactics
import Derived.Test.YtckbhhaigpajpaaDoorRaab
import Derived.Test.YtckbhhaigpajpaaDoorRaaf
import Derived.Test.YtckbhhaigpajpaaDoorRaac
namespace Go.Proofs.YtckbhhaigpajpaaDoor
open Go.RowKit Go.Shelf

attribute [local go_sem] Oper.semAt_some

/-- The first k places with the clubs there. -/
def pairs (zs : List Int) (k : Nat) : List (Nat × Int) := (List.range k).map fun j => (j, zs[j]?.getD 0)

theorem pairs_succ (zs : List Int) (k : Nat) : pairs zs (k + 1) = pairs zs k ++ [(k, zs[k]?.getD 0)] := by simp [pairs, List.range_succ]
theorem pairs_succ' (zs : List Int) (k : Nat) (h : k < zs.length) : pairs zs (k + 1) = pairs zs k ++ [(k, zs[k])] := by rw [pairs_succ]; simp [h]
theorem pairs_length (zs : List Int) (k : Nat) : (pairs zs k).length = k := by simp [pairs]
theorem pairs_snd (zs : List Int) (k : Nat) (h : k ≤ zs.length) : (pairs zs k).map (·.2) = zs.take k := by
  apply List.ext_getElem
  · simp [pairs, h]
  · intro i h1 h2
    have : i < zs.length := by simp [pairs] at h1; omega
    simp [pairs, this]

theorem pairs_all (zs : List Int) : (pairs zs zs.length).map (·.2) = zs := by rw [pairs_snd zs _ (Nat.le_refl _), List.take_length]
set_option maxRecDepth 100000 in
set_option maxHeartbeats 2000000 in
theorem clubs1_in (n : Nat) (hn : 1 ≤ n) (l Bs n₀ : Nat) (a : Option Addr) (c : Nat) (zs : List Int) (hlen : zs.length ≤ 1048576) (J Jx : List (Nat × Int) → World → Prop)
    (hY : ∀ pre x W, J pre W → pre.length < zs.length → YieldAt Fence.wide (n - 1) Tryd.prog l #[.int .i64 (x.1 : Int), .int .i64 x.2] W fun e W' =>
      (e = .returned (.bool true) ∧ J (pre ++ [x]) W' ∧ Below n₀ W W') ∨ (e = .returned (.bool false) ∧ Jx (pre ++ [x]) W'))
    (W : World) (hBs : W.cell? ⟨Bs, 1, none⟩ = some (.slice a zs.length c)) (hI : Ints W n₀ a zs) (h0 : J [] W) :
    CallsIn Fence.wide n Tryd.prog 86 #[.func (.yield l) #[] #[], .pointer (some ⟨Bs, 0, none⟩)] W fun e W' => (∃ v, e = .returned v) ∧
      ((∃ ys, ys = pairs zs zs.length ∧ J ys W') ∨ (∃ pre, (∃ k, k ≤ zs.length ∧ pre = pairs zs k) ∧ Jx pre W')) := by
  refine callsIn_of_wp Tryd.func86 rfl trivial ?_ rfl
  simp only [Tryd.ntmps86, List.size_toArray, List.length_cons, List.length_nil, Nat.reduceAdd, Nat.reduceSub, Array.replicate_succ, Array.replicate_zero, List.push_toArray, List.append_toArray, List.nil_append, List.cons_append]
  gi_wp2
  gi_loopw [8] (fun i wr => ∃ k : Nat, k ≤ zs.length ∧ i = .int .i64 k ∧ J (pairs zs k) wr ∧ Below n₀ W wr)
    (fun i _ => zs.length - (intOf i).toNat)
  case atStart => exact ⟨0, Nat.zero_le _, rfl, h0, Below.refl _ _⟩
  case round =>
    obtain ⟨k, hk, rfl, hJs, hnx⟩ := hrel
    by_cases hlt : k < zs.length
    · obtain ⟨b, off, rfl, hb, hc⟩ := hI.at_ hlt
      have hcx' : wr.cell? ⟨b, off + k, none⟩ = some (.int .i64 (zs[k]?.getD 0)) := (hnx.cell (p := ⟨b, off + k, none⟩) hb).trans hc
      obtain ⟨fn, tmps, assign, body, hy, hR⟩ := hY _ (k, zs[k]) wr hJs (by rw [pairs_length]; exact hlt)
      dsimp only at hy
      gi_wp2
      refine hR.mono ?_
      rintro e W3 (⟨rfl, hJ3, hk3⟩ | ⟨rfl, hJx3⟩)
      · gi_wp2
        go_roundw
        case rel => exact ⟨k + 1, by omega, by simp, by rw [pairs_succ' zs k hlt]; exact hJ3, hnx.trans hk3⟩
        case measure => simp [intOf]; omega
      · gi_wp2
        refine bodyPost_ret (results_none rfl _ _ _) rfl ?_
        exact ⟨⟨_, rfl⟩, .inr ⟨_, ⟨k + 1, by omega, (pairs_succ' zs k hlt).symm⟩, hJx3⟩⟩
    · obtain rfl : k = zs.length := by omega
      gi_wp2
      go_end0
      exact ⟨⟨_, rfl⟩, .inl ⟨_, rfl, hJs⟩⟩

/-- f.clubs(): the family is boxed; the function value holds the box. -/
theorem clubs_any (m : Int) (a : Option Addr) (n c : Nat) (w : World) :
    Calls Tryd.prog 50 #[.agg #[.int .i64 m, .slice a n c]] w fun e w' => e = .returned (.func (.func 86) #[] #[.pointer (some ⟨w.heap.size, 0, none⟩)]) ∧ w' = w.alloc (.cells #[.int .i64 m, .slice a n c] 25) := by
  have hmf : ∀ (fn : Fn) (first cap : Array Value) (w : World), (Instr.makeFunc fn first cap).run Tryd.prog w = .ok (.func fn first cap) w := fun _ _ _ _ => rfl
  go_enter Tryd.func50, Tryd.ntmps50
  go_wp2
  go_ret
  exact ⟨rfl, rfl⟩

theorem clubs_stops (n : Nat) (hn : 1 ≤ n) (Bs n₀ : Nat) (a : Option Addr) (c : Nat) (zs : List Int) (hlen : zs.length ≤ 1048576) (w : World) (hBs : Bs < w.heap.size) (hn₀ : n₀ ≤ w.heap.size)
    (hc : w.cell? ⟨Bs, 1, none⟩ = some (.slice a zs.length c)) (hI : Ints w n₀ a zs) :
    SeqStopsK Fence.wide n Tryd.prog 86 #[.pointer (some ⟨Bs, 0, none⟩)] (fun x : Nat × Int => #[Value.int .i64 (x.1 : Int), Value.int .i64 x.2]) (Below n₀) (fun ys => ys = pairs zs zs.length)
      (fun pre => ∃ k, k ≤ zs.length ∧ pre = pairs zs k) zs.length w := fun l J Jx W hW _ _ hY h0 =>
  clubs1_in n hn l Bs n₀ a c zs hlen J Jx hY W ((hW.cell (p := ⟨Bs, 1, none⟩) hBs).trans hc) (hI.below (hW.mono hn₀)) h0

end Go.Proofs.YtckbhhaigpajpaaDoor

/- It is proved what the iterator over a family's clubs yields where each club is a set of members; conditions: those of each statement. -/
namespace Go
end Go
namespace Go.Proofs.YtckbhhaigpajpaaDoor
open Go.RowKit Go.Shelf

attribute [local go_sem] Oper.semAt_some

set_option maxRecDepth 100000 in
set_option maxHeartbeats 2000000 in
theorem clubsP1_in (P : Nat × Int → Prop) (n : Nat) (hn : 1 ≤ n) (l Bs n₀ : Nat) (a : Option Addr) (c : Nat) (zs : List Int) (hlen : zs.length ≤ 1048576) (hP : ∀ k, k < zs.length → P (k, zs[k]?.getD 0)) (J Jx : List { p // P p } → World → Prop)
    (hY : ∀ pre x W, J pre W → pre.length < zs.length → YieldAt Fence.wide (n - 1) Tryd.prog l #[.int .i64 (x.1.1 : Int), .int .i64 x.1.2] W fun e W' =>
      (e = .returned (.bool true) ∧ J (pre ++ [x]) W' ∧ Below n₀ W W') ∨ (e = .returned (.bool false) ∧ Jx (pre ++ [x]) W'))
    (W : World) (hBs : W.cell? ⟨Bs, 1, none⟩ = some (.slice a zs.length c)) (hI : Ints W n₀ a zs) (h0 : J [] W) :
    CallsIn Fence.wide n Tryd.prog 86 #[.func (.yield l) #[] #[], .pointer (some ⟨Bs, 0, none⟩)] W fun e W' => (∃ v, e = .returned v) ∧
      ((∃ ys, ys.map (·.1) = pairs zs zs.length ∧ J ys W') ∨ (∃ pre, (∃ k, k ≤ zs.length ∧ pre.map (·.1) = pairs zs k) ∧ Jx pre W')) := by
  refine callsIn_of_wp Tryd.func86 rfl trivial ?_ rfl
  simp only [Tryd.ntmps86, List.size_toArray, List.length_cons, List.length_nil, Nat.reduceAdd, Nat.reduceSub, Array.replicate_succ, Array.replicate_zero, List.push_toArray, List.append_toArray, List.nil_append, List.cons_append]
  gi_wp2
  gi_loopw [8] (fun i wr => ∃ (k : Nat) (pre : List { p // P p }), k ≤ zs.length ∧ i = .int .i64 k ∧ pre.map (·.1) = pairs zs k ∧ J pre wr ∧ Below n₀ W wr)
    (fun i _ => zs.length - (intOf i).toNat)
  case atStart => exact ⟨0, [], Nat.zero_le _, rfl, rfl, h0, Below.refl _ _⟩
  case round =>
    obtain ⟨k, pre, hk, rfl, hpre, hJs, hnx⟩ := hrel
    by_cases hlt : k < zs.length
    · obtain ⟨b, off, rfl, hb, hc⟩ := hI.at_ hlt
      have hcx' : wr.cell? ⟨b, off + k, none⟩ = some (.int .i64 (zs[k]?.getD 0)) := (hnx.cell (p := ⟨b, off + k, none⟩) hb).trans hc
      have hpl : pre.length < zs.length := by have := congrArg List.length hpre; rw [List.length_map, pairs_length] at this; omega
      have hPk : P (k, zs[k]) := by have := hP k hlt; simpa [hlt] using this
      have hpre' : (pre ++ [(⟨(k, zs[k]), hPk⟩ : { p // P p })]).map (·.1) = pairs zs (k + 1) := by rw [List.map_append, hpre, pairs_succ' zs k hlt]; rfl
      obtain ⟨fn, tmps, assign, body, hy, hR⟩ := hY _ ⟨(k, zs[k]), hPk⟩ wr hJs hpl
      dsimp only at hy
      clear hpre
      gi_wp2
      refine hR.mono ?_
      rintro e W3 (⟨rfl, hJ3, hk3⟩ | ⟨rfl, hJx3⟩)
      · gi_wp2
        go_roundw
        case rel => exact ⟨k + 1, _, by omega, by simp, hpre', hJ3, hnx.trans hk3⟩
        case measure => simp [intOf]; omega
      · gi_wp2
        refine bodyPost_ret (results_none rfl _ _ _) rfl ?_
        exact ⟨⟨_, rfl⟩, .inr ⟨_, ⟨k + 1, by omega, hpre'⟩, hJx3⟩⟩
    · obtain rfl : k = zs.length := by omega
      gi_wp2
      go_end0
      exact ⟨⟨_, rfl⟩, .inl ⟨_, hpre, hJs⟩⟩

theorem clubsP_stops (P : Nat × Int → Prop) (n : Nat) (hn : 1 ≤ n) (Bs n₀ : Nat) (a : Option Addr) (c : Nat) (zs : List Int) (hlen : zs.length ≤ 1048576) (hP : ∀ k, k < zs.length → P (k, zs[k]?.getD 0)) (w : World) (hBs : Bs < w.heap.size) (hn₀ : n₀ ≤ w.heap.size)
    (hc : w.cell? ⟨Bs, 1, none⟩ = some (.slice a zs.length c)) (hI : Ints w n₀ a zs) :
    SeqStopsK Fence.wide n Tryd.prog 86 #[.pointer (some ⟨Bs, 0, none⟩)] (fun x : { p // P p } => #[Value.int .i64 (x.1.1 : Int), Value.int .i64 x.1.2]) (Below n₀) (fun ys => ys.map (·.1) = pairs zs zs.length)
      (fun pre => ∃ k, k ≤ zs.length ∧ pre.map (·.1) = pairs zs k) zs.length w := fun l J Jx W hW _ _ hY h0 =>
  clubsP1_in P n hn l Bs n₀ a c zs hlen hP J Jx hY W ((hW.cell (p := ⟨Bs, 1, none⟩) hBs).trans hc) (hI.below (hW.mono hn₀)) h0

/-- What the body of a loop over clubs knows of a club. -/
def IsClub (m : Nat) (p : Nat × Int) : Prop := p.1 < 8 ∧ 0 ≤ p.2 ∧ p.2.toNat < 2 ^ m

theorem IsClub.small {m : Nat} (hm : m ≤ 6) {p : Nat × Int} (h : IsClub m p) : p.2.toNat < 64 := Nat.lt_of_lt_of_le h.2.2 (Nat.pow_le_pow_right (by decide) hm : 2 ^ m ≤ 2 ^ 6)
/-- The clubs behind what is known of them. -/
def sets {m : Nat} (ys : List { p // IsClub m p }) : List Int := ys.map (·.1.2)

end Go.Proofs.YtckbhhaigpajpaaDoor

/- It is proved what missedBy and coveredBy return, and how a family in a captured variable grows; conditions: those of each statement. -/
namespace Go.Proofs.YtckbhhaigpajpaaDoor
open Go.RowKit Go.Shelf

attribute [local go_sem] Oper.semAt_some

theorem obj_ne {cs cs' : Array Value} {t : TypeId} {z z' : Nat × Nat} (h : t ≠ 3) : Obj.cells cs t z ≠ Obj.cells cs' 3 z' := fun e => by injection e with _ e; exact h e
theorem HasBlk.butF {lo D l b : Nat} {A B : World} {cs : Array Value} {t : TypeId} (h : HasBlk A b cs t) (hb : ButF lo D l A B) (h1 : b ≠ l) (h2 : b ≠ D) (h3 : t ≠ 3) : HasBlk B b cs t := hb.keep h h1 h2 (fun _ _ _ => obj_ne h3)
/-- Clubs are sets of m members, whatever their number. -/
def Sets (m : Nat) (zs : List Int) : Prop := ∀ z ∈ zs, 0 ≤ z ∧ z.toNat < 2 ^ m

def IsSet (m : Nat) (p : Nat × Int) : Prop := 0 ≤ p.2 ∧ p.2.toNat < 2 ^ m
theorem Sets.at_ {m : Nat} {zs : List Int} (h : Sets m zs) : ∀ k, k < zs.length → IsSet m (k, zs[k]?.getD 0) := fun k hk => by
  rw [List.getElem?_eq_getElem hk]
  exact h _ (List.getElem_mem hk)

theorem sets_of_fam {m : Nat} {zs : List Int} (h : famIn (m : Int) zs = true) : Sets m zs := fun z hz => by
  obtain ⟨h1, h2, -, h4⟩ := famIn_out h
  have := h4 z hz
  unfold fullI at this
  rw [Int.toNat_natCast] at this
  have e : (2 : Int) ^ m = ((2 ^ m : Nat) : Int) := by norm_cast
  omega

def sndL {m : Nat} (ys : List { p // IsSet m p }) : List Int := ys.map (·.1.2)
theorem sndL_snoc {m : Nat} (ys : List { p // IsSet m p }) (y : { p // IsSet m p }) : sndL (ys ++ [y]) = sndL ys ++ [y.1.2] := by simp [sndL]
theorem sndL_all {m : Nat} {zs : List Int} {ys : List { p // IsSet m p }} (h : ys.map (·.1) = pairs zs zs.length) : sndL ys = zs := by
  have := congrArg (List.map (·.2)) h
  rw [pairs_all, List.map_map] at this
  exact this

end Go.Proofs.YtckbhhaigpajpaaDoor

/- It is proved what triedCovers returns; conditions: those of each statement. -/
namespace Go.Proofs.YtckbhhaigpajpaaDoor
open Go.RowKit Go.Shelf

attribute [local go_sem] Oper.semAt_some

theorem HasBlk.ownF {β : Type} {B b : Nat} (hb : b < B) (cs : Array Value) (t : TypeId) : OwnF B (fun (_ : β) W => HasBlk W b cs t) := fun s X Y row hs hg hrow =>
  hs.kept hg (fun e' => by have := (hrow b e').1; omega)

end Go.Proofs.YtckbhhaigpajpaaDoor

/- It is proved what CoverIn of the program and of the reference model returns; conditions: those of each statement. -/
namespace Go.Proofs.YtckbhhaigpajpaaDoor
open Go.RowKit

theorem fam_nat2 {m : Int} {zs : List Int} (h : famIn m zs = true) : ∃ k : Nat, m = (k : Int) ∧ 1 ≤ k ∧ k ≤ 6 ∧ Sets k zs ∧ zs.length ≤ 8 := by
  obtain ⟨h1, h2, h3, -⟩ := famIn_out h
  obtain ⟨k, rfl⟩ : ∃ k : Nat, m = (k : Int) := ⟨m.toNat, by omega⟩
  exact ⟨k, rfl, by omega, by omega, sets_of_fam h, h3⟩

end Go.Proofs.YtckbhhaigpajpaaDoor
