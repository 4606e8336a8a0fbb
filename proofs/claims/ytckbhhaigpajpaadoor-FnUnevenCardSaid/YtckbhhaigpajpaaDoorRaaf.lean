/- It is proved what TrailingZeros returns and what the iterator over a set's members yields; conditions: those of each statement. -/
import Derived.Test.YtckbhhaigpajpaaDoorRows
import Derived.WalkKit
import Derived.WalkSpells
import Derived.ProofKit
import Derived.OpenShut
import Derived.ShutString
import Derived.ChangeOld
import Derived.Below
import Derived.Deep.RegionHeld3
import Derived.Deep.QuietTactic
import Derived.BigQuiet
import Derived.Lib.Hide
import Derived.Lib.SmallJoins
import Derived.Outline
import Derived.Laws.MakeOwn
import Derived.Laws.OwnMore
import Derived.IntWalk
import Derived.RangeFuncNested
import Derived.RangeFuncBound
import Derived.RangeFuncCalls
import Derived.RangeFuncLeaves
import Derived.RangeFuncBox
import Derived.Shelf.Abstract
import Derived.Shelf.RegionOpen
import Derived.OwnWalkIn
import Derived.TacticsInMore
import Derived.LoopNIn
import Derived.LoopIn
import Derived.Maps.AppendAt
import Derived.Shelf.Spec.TrailingZeros
import Derived.Test.YtckbhhaigpajpaaDoorRaae
import Derived.Deep.AppendLies
import Derived.Test.YtckbhhaigpajpaaDoorRaaa
import Derived.Test.YtckbhhaigpajpaaDoorRaab
import Derived.RowKit
import Derived.Laws.CopyRow
import Derived.Lib.SlBuf
import Derived.RangeFuncWrites
import Derived.StillTailTactics
import Derived.Maps.OwnIn
import Derived.Maps.Ext
import Derived.DeepKeys4
import Derived.MapKept
import Derived.Lib.AppendZeros
import Derived.OwnWalk
import Derived.Lib.SlicesCompact
import Derived.Lib.OwnBridge
import Derived.OrdersIn
import Derived.TacticsIn
import Derived.Shelf.Sort.Plain
import Derived.Shelf.Slices.In.SortNone
import Derived.Shelf.Slices.CompactI
import Derived.Ground.Names2Prog
import Derived.Lib.SliceRun
import Derived.StillTail
import Derived.StillTactics
import Derived.Test.YtckbhhaigpajpaaDoorRaad
namespace Go.Proofs.YtckbhhaigpajpaaDoor
open Go.RowKit Go.Shelf

attribute [local go_sem] Oper.semAt_some

set_option maxHeartbeats 1000000 in
theorem tz64_coreD (x k idx : Nat) (w : World) (hx0 : ((x : Int) == 0) = false)
    (key : IntKind.u64.wrap (bits BinOp.and IntKind.u64 (x : Int) (IntKind.u64.wrap (-(x : Int))) * 285870213051353865) / 288230376151711744 = (idx : Int))
    (hi : idx < 64) (hk : k < 64) (hcell : w.cell? ⟨1, idx, none⟩ = some (.int .u8 k)) :
    Calls Tryd.prog 110 #[.int .u64 x] w fun e w' => e = .returned (.int .i64 k) ∧ w = w' := by
  go_enter Tryd.func110, Tryd.ntmps110
  go_wp2_with (simp only [key])
  go_ret
  exact ⟨rfl, rfl⟩

theorem tz_any (x : Nat) (hx0 : x ≠ 0) (hx : x < 64) (w : World) (hT : Tab w) :
    Calls Tryd.prog 97 #[.int .u64 x] w fun e w' => e = .returned (.int .i64 (Lib.ctz 64 x : Nat)) ∧ w = w' := by
  obtain ⟨hlow, hk⟩ := Lib.lowest_bit 64 x hx0 (by omega)
  obtain ⟨hi, htab⟩ := Lib.deBruijn64_at _ hk
  have hcell := hT _ hi
  rw [htab] at hcell
  have H := tz64_coreD x _ _ w (by simp; omega) (tz64_key x _ (by omega) hx0 hlow) hi hk hcell
  clear hT hcell htab hi hlow
  go_enter Tryd.func97, Tryd.ntmps97
  go_wp2_with (go_at_call 110; refine H.mono ?_; rintro e w' ⟨rfl, rfl⟩)
  go_ret
  exact ⟨rfl, rfl⟩

/-- c.members(): the set is boxed; the function value holds the box. -/
theorem members_any (s : Int) (w : World) :
    Calls Tryd.prog 72 #[.int .i64 s] w fun e w' => e = .returned (.func (.func 96) #[] #[.pointer (some ⟨w.heap.size, 0, none⟩)]) ∧ w' = w.alloc (.cells #[.int .i64 s] 41) := by
  have hmf : ∀ (fn : Fn) (first cap : Array Value) (w : World), (Instr.makeFunc fn first cap).run Tryd.prog w = .ok (.func fn first cap) w := fun _ _ _ _ => rfl
  go_enter Tryd.func72, Tryd.ntmps72
  go_wp2
  go_ret
  exact ⟨rfl, rfl⟩

/-- A member below m. -/
abbrev Mem (m : Nat) := { v : Nat // v < m }

theorem low_and (t : Nat) (h0 : t ≠ 0) (h : t < 64) : bits BinOp.and IntKind.u64 (t : Int) ((t : Int) - 1) = ((t &&& (t - 1) : Nat) : Int) := by
  rw [show (t : Int) - 1 = ((t - 1 : Nat) : Int) from by omega, bits_and_u64_nat t _ (by omega) (by omega)]

set_option maxRecDepth 100000 in
set_option maxHeartbeats 2000000 in
theorem members1_in (n : Nat) (hn : 1 ≤ n) (l Bs n₀ m s : Nat) (hm : m ≤ 6) (hs : s < 2 ^ m) (J Jx : List (Mem m) → World → Prop)
    (hY : ∀ pre x W, J pre W → pre.length < 6 → YieldAt Fence.wide (n - 1) Tryd.prog l #[.int .i64 (x.1 : Int)] W fun e W' =>
      (e = .returned (.bool true) ∧ J (pre ++ [x]) W' ∧ Below n₀ W W') ∨ (e = .returned (.bool false) ∧ Jx (pre ++ [x]) W'))
    (W : World) (hBs : W.cell? ⟨Bs, 0, none⟩ = some (.int .i64 (s : Int))) (hT : Tab W) (hn0 : 1 < n₀) (h0 : J [] W) :
    CallsIn Fence.wide n Tryd.prog 96 #[.func (.yield l) #[] #[], .pointer (some ⟨Bs, 0, none⟩)] W fun e W' => (∃ v, e = .returned v) ∧
      ((∃ ys, ys.map (·.1) = mem s ∧ J ys W') ∨ (∃ pre, pre.map (·.1) <+: mem s ∧ Jx pre W')) := by
  have hs64 : s < 64 := Nat.lt_of_lt_of_le hs (Nat.pow_le_pow_right (by decide) hm : 2 ^ m ≤ 2 ^ 6)
  have hss : (s : Int) < 64 := by omega
  refine callsIn_of_wp Tryd.func96 rfl trivial ?_ rfl
  simp only [Tryd.ntmps96, List.size_toArray, List.length_cons, List.length_nil, Nat.reduceAdd, Nat.reduceSub, Array.replicate_succ, Array.replicate_zero, List.push_toArray, List.append_toArray, List.nil_append, List.cons_append]
  gi_wp2
  gi_loopw [3] (fun r wr => ∃ (t : Nat) (pre : List (Mem m)), t < 64 ∧ pre.map (·.1) ++ mem t = mem s ∧ r = .int .u64 (t : Int) ∧ J pre wr ∧ Below n₀ W wr)
    (fun r _ => (intOf r).toNat)
  case atStart => exact ⟨s, [], hs64, by simp, rfl, h0, Below.refl _ _⟩
  case round =>
    obtain ⟨t, pre, ht, hpre, rfl, hJs, hnx⟩ := hrel
    by_cases h0 : t = 0
    · subst h0
      rw [mem_zero, List.append_nil] at hpre
      gi_wp2
      go_end0
      exact ⟨⟨_, rfl⟩, .inl ⟨pre, hpre, hJs⟩⟩
    · have hc := mem_cons t ht h0
      rw [hc] at hpre
      have hk : Lib.ctz 64 t < m := mem_lt m hm s hs _ (by rw [← hpre]; simp)
      have hlen : pre.length < 6 := by
        have h1 := mem_length s hs64
        rw [← hpre] at h1
        simp at h1
        omega
      have HA := Lib.hid (low_and t h0 ht)
      have hT2 : Tab wr := hT.below hnx hn0
      have hpre' : (pre ++ [(⟨Lib.ctz 64 t, hk⟩ : Mem m)]).map (·.1) ++ mem (t &&& (t - 1)) = mem s := by rw [← hpre]; simp
      have hlt : t &&& (t - 1) < t := by have := @Nat.and_le_right t (t - 1); omega
      obtain ⟨fn, tmps, assign, body, hy, hR⟩ := hY _ ⟨Lib.ctz 64 t, hk⟩ wr hJs hlen
      dsimp only at hy
      have ht0 : (0 : Int) < (t : Int) := by omega
      clear hc hpre
      gi_wp2
      refine ⟨trivial, (callsIn_wide.2 (tz_any t h0 ht _ hT2)).mono ?_⟩
      rintro e w' ⟨rfl, rfl⟩
      gi_wp2
      refine hR.mono ?_
      rintro e W3 (⟨rfl, hJ3, hk3⟩ | ⟨rfl, hJx3⟩)
      · gi_wp2
        go_roundw
        case rel => exact ⟨t &&& (t - 1), _, by omega, hpre', by rw [HA.out], hJ3, hnx.trans hk3⟩
        case measure => rw [HA.out]; simp only [intOf]; omega
      · gi_wp2
        refine bodyPost_ret (results_none rfl _ _ _) rfl ?_
        exact ⟨⟨_, rfl⟩, .inr ⟨_, ⟨mem (t &&& (t - 1)), hpre'⟩, hJx3⟩⟩

theorem members_stops (n : Nat) (hn : 1 ≤ n) (Bs n₀ m s : Nat) (hm : m ≤ 6) (hs : s < 2 ^ m) (w : World) (hBs : Bs < w.heap.size) (hn₀ : n₀ ≤ w.heap.size) (hn1 : 1 < n₀)
    (hc : w.cell? ⟨Bs, 0, none⟩ = some (.int .i64 (s : Int))) (hT : Tab w) :
    SeqStopsK Fence.wide n Tryd.prog 96 #[.pointer (some ⟨Bs, 0, none⟩)] (fun x : Mem m => #[Value.int .i64 (x.1 : Int)]) (Below n₀) (fun ys => ys.map (·.1) = mem s)
      (fun pre => pre.map (·.1) <+: mem s) 6 w := fun l J Jx W hW _ _ hY h0 =>
  members1_in n hn l Bs n₀ m s hm hs J Jx hY W ((hW.cell (p := ⟨Bs, 0, none⟩) hBs).trans hc) (hT.below hW (by omega)) hn1 h0

end Go.Proofs.YtckbhhaigpajpaaDoor

/- It is proved what the iterator over a family's clubs yields where each club is a set of members; conditions: those of each statement. -/
namespace Go
end Go
namespace Go.Proofs.YtckbhhaigpajpaaDoor
open Go.RowKit Go.Shelf

attribute [local go_sem] Oper.semAt_some

set_option maxRecDepth 100000 in
set_option maxHeartbeats 2000000 in
theorem clubsP1_in (P : Nat × Int → Prop) (n : Nat) (hn : 1 ≤ n) (l Bs n₀ : Nat) (a : Option Addr) (c : Nat) (zs : List Int) (hlen : zs.length ≤ 1048576) (hP : ∀ k, k < zs.length → P (k, zs[k]?.getD 0)) (J Jx : List { p // P p } → World → Prop)
    (hY : ∀ pre x W, J pre W → pre.length < zs.length → YieldAt Fence.wide (n - 1) Tryd.prog l #[.int .i64 (x.1.1 : Int), .int .i64 x.1.2] W fun e W' =>
      (e = .returned (.bool true) ∧ J (pre ++ [x]) W' ∧ Below n₀ W W') ∨ (e = .returned (.bool false) ∧ Jx (pre ++ [x]) W'))
    (W : World) (hBs : W.cell? ⟨Bs, 1, none⟩ = some (.slice a zs.length c)) (hI : Ints W n₀ a zs) (h0 : J [] W) :
    CallsIn Fence.wide n Tryd.prog 86 #[.func (.yield l) #[] #[], .pointer (some ⟨Bs, 0, none⟩)] W fun e W' => (∃ v, e = .returned v) ∧
      ((∃ ys, ys.map (·.1) = pairs zs zs.length ∧ J ys W') ∨ (∃ pre, (∃ k, k ≤ zs.length ∧ pre.map (·.1) = pairs zs k) ∧ Jx pre W')) := by
  refine callsIn_of_wp Tryd.func86 rfl trivial ?_ rfl
  simp only [Tryd.ntmps86, List.size_toArray, List.length_cons, List.length_nil, Nat.reduceAdd, Nat.reduceSub, Array.replicate_succ, Array.replicate_zero, List.push_toArray, List.append_toArray, List.nil_append, List.cons_append]
  gi_wp2
  gi_loopw [8] (fun i wr => ∃ (k : Nat) (pre : List { p // P p }), k ≤ zs.length ∧ i = .int .i64 k ∧ pre.map (·.1) = pairs zs k ∧ J pre wr ∧ Below n₀ W wr)
    (fun i _ => zs.length - (intOf i).toNat)
  case atStart => exact ⟨0, [], Nat.zero_le _, rfl, rfl, h0, Below.refl _ _⟩
  case round =>
    obtain ⟨k, pre, hk, rfl, hpre, hJs, hnx⟩ := hrel
    by_cases hlt : k < zs.length
    · obtain ⟨b, off, rfl, hb, hc⟩ := hI.at_ hlt
      have hcx' : wr.cell? ⟨b, off + k, none⟩ = some (.int .i64 (zs[k]?.getD 0)) := (hnx.cell (p := ⟨b, off + k, none⟩) hb).trans hc
      have hpl : pre.length < zs.length := by have := congrArg List.length hpre; rw [List.length_map, pairs_length] at this; omega
      have hPk : P (k, zs[k]) := by have := hP k hlt; simpa [hlt] using this
      have hpre' : (pre ++ [(⟨(k, zs[k]), hPk⟩ : { p // P p })]).map (·.1) = pairs zs (k + 1) := by rw [List.map_append, hpre, pairs_succ' zs k hlt]; rfl
      obtain ⟨fn, tmps, assign, body, hy, hR⟩ := hY _ ⟨(k, zs[k]), hPk⟩ wr hJs hpl
      dsimp only at hy
      clear hpre
      gi_wp2
      refine hR.mono ?_
      rintro e W3 (⟨rfl, hJ3, hk3⟩ | ⟨rfl, hJx3⟩)
      · gi_wp2
        go_roundw
        case rel => exact ⟨k + 1, _, by omega, by simp, hpre', hJ3, hnx.trans hk3⟩
        case measure => simp [intOf]; omega
      · gi_wp2
        refine bodyPost_ret (results_none rfl _ _ _) rfl ?_
        exact ⟨⟨_, rfl⟩, .inr ⟨_, ⟨k + 1, by omega, hpre'⟩, hJx3⟩⟩
    · obtain rfl : k = zs.length := by omega
      gi_wp2
      go_end0
      exact ⟨⟨_, rfl⟩, .inl ⟨_, hpre, hJs⟩⟩

theorem clubsP_stops (P : Nat × Int → Prop) (n : Nat) (hn : 1 ≤ n) (Bs n₀ : Nat) (a : Option Addr) (c : Nat) (zs : List Int) (hlen : zs.length ≤ 1048576) (hP : ∀ k, k < zs.length → P (k, zs[k]?.getD 0)) (w : World) (hBs : Bs < w.heap.size) (hn₀ : n₀ ≤ w.heap.size)
    (hc : w.cell? ⟨Bs, 1, none⟩ = some (.slice a zs.length c)) (hI : Ints w n₀ a zs) :
    SeqStopsK Fence.wide n Tryd.prog 86 #[.pointer (some ⟨Bs, 0, none⟩)] (fun x : { p // P p } => #[Value.int .i64 (x.1.1 : Int), Value.int .i64 x.1.2]) (Below n₀) (fun ys => ys.map (·.1) = pairs zs zs.length)
      (fun pre => ∃ k, k ≤ zs.length ∧ pre.map (·.1) = pairs zs k) zs.length w := fun l J Jx W hW _ _ hY h0 =>
  clubsP1_in P n hn l Bs n₀ a c zs hlen hP J Jx hY W ((hW.cell (p := ⟨Bs, 1, none⟩) hBs).trans hc) (hI.below (hW.mono hn₀)) h0

/-- All members of some clubs, one club behind the other. -/
def allMem (zs : List Int) : List Nat := zs.flatMap fun z => mem z.toNat

/-- What the body of a loop over clubs knows of a club. -/
def IsClub (m : Nat) (p : Nat × Int) : Prop := p.1 < 8 ∧ 0 ≤ p.2 ∧ p.2.toNat < 2 ^ m

theorem IsClub.small {m : Nat} (hm : m ≤ 6) {p : Nat × Int} (h : IsClub m p) : p.2.toNat < 64 := Nat.lt_of_lt_of_le h.2.2 (Nat.pow_le_pow_right (by decide) hm : 2 ^ m ≤ 2 ^ 6)
theorem isClub_all {m : Nat} {zs : List Int} (h : famIn (m : Int) zs = true) : ∀ k, k < zs.length → IsClub m (k, zs[k]?.getD 0) := by
  obtain ⟨h1, h2, h3, h4⟩ := famIn_out h
  intro k hk
  have h5 := h4 zs[k] (List.getElem_mem _)
  have h6 : zs[k]?.getD 0 = zs[k] := by simp [hk]
  refine ⟨by show k < 8; omega, ?_, ?_⟩
  · show 0 ≤ zs[k]?.getD 0
    omega
  · show (zs[k]?.getD 0).toNat < 2 ^ m
    have h7 : fullI (m : Int) = ((2 ^ m : Nat) : Int) - 1 := by simp [fullI]
    rw [h6]
    omega

theorem clubs_snd {m : Nat} {zs : List Int} {ys : List { p // IsClub m p }} (h : ys.map (·.1) = pairs zs zs.length) : ys.map (·.1.2) = zs := by
  have := congrArg (List.map (·.2)) h
  rw [List.map_map, pairs_all] at this
  exact this

/-- The members behind their bound. -/
def vals {m : Nat} (us : List (Mem m)) : List Nat := us.map (·.1)

theorem vals_snoc {m : Nat} (us : List (Mem m)) (u : Mem m) : vals (us ++ [u]) = vals us ++ [u.1] := by simp [vals]
theorem vals_length {m : Nat} (us : List (Mem m)) : (vals us).length = us.length := by simp [vals]
/-- The clubs behind what is known of them. -/
def sets {m : Nat} (ys : List { p // IsClub m p }) : List Int := ys.map (·.1.2)

theorem sets_snoc {m : Nat} (ys : List { p // IsClub m p }) (y : { p // IsClub m p }) : sets (ys ++ [y]) = sets ys ++ [y.1.2] := by simp [sets]
theorem sets_all {m : Nat} {zs : List Int} {ys : List { p // IsClub m p }} (h : ys.map (·.1) = pairs zs zs.length) : sets ys = zs := clubs_snd h
end Go.Proofs.YtckbhhaigpajpaaDoor

/- It is proved what missedBy and coveredBy return, and how a family in a captured variable grows; conditions: those of each statement. -/
namespace Go.Proofs.YtckbhhaigpajpaaDoor
open Go.RowKit Go.Shelf

attribute [local go_sem] Oper.semAt_some

theorem obj_ne {cs cs' : Array Value} {t : TypeId} {z z' : Nat × Nat} (h : t ≠ 3) : Obj.cells cs t z ≠ Obj.cells cs' 3 z' := fun e => by injection e with _ e; exact h e
theorem HasBlk.butF {lo D l b : Nat} {A B : World} {cs : Array Value} {t : TypeId} (h : HasBlk A b cs t) (hb : ButF lo D l A B) (h1 : b ≠ l) (h2 : b ≠ D) (h3 : t ≠ 3) : HasBlk B b cs t := hb.keep h h1 h2 (fun _ _ _ => obj_ne h3)
/-- Clubs are sets of m members, whatever their number. -/
def Sets (m : Nat) (zs : List Int) : Prop := ∀ z ∈ zs, 0 ≤ z ∧ z.toNat < 2 ^ m

def IsSet (m : Nat) (p : Nat × Int) : Prop := 0 ≤ p.2 ∧ p.2.toNat < 2 ^ m
theorem Sets.at_ {m : Nat} {zs : List Int} (h : Sets m zs) : ∀ k, k < zs.length → IsSet m (k, zs[k]?.getD 0) := fun k hk => by
  rw [List.getElem?_eq_getElem hk]
  exact h _ (List.getElem_mem hk)

theorem sets_of_fam {m : Nat} {zs : List Int} (h : famIn (m : Int) zs = true) : Sets m zs := fun z hz => by
  obtain ⟨h1, h2, -, h4⟩ := famIn_out h
  have := h4 z hz
  unfold fullI at this
  rw [Int.toNat_natCast] at this
  have e : (2 : Int) ^ m = ((2 ^ m : Nat) : Int) := by norm_cast
  omega

def sndL {m : Nat} (ys : List { p // IsSet m p }) : List Int := ys.map (·.1.2)
theorem sndL_snoc {m : Nat} (ys : List { p // IsSet m p }) (y : { p // IsSet m p }) : sndL (ys ++ [y]) = sndL ys ++ [y.1.2] := by simp [sndL]
theorem sndL_all {m : Nat} {zs : List Int} {ys : List { p // IsSet m p }} (h : ys.map (·.1) = pairs zs zs.length) : sndL ys = zs := by
  have := congrArg (List.map (·.2)) h
  rw [pairs_all, List.map_map] at this
  exact this

theorem sndL_len {m : Nat} (ys : List { p // IsSet m p }) : (sndL ys).length = ys.length := by simp [sndL]
end Go.Proofs.YtckbhhaigpajpaaDoor

/- It is proved that both sides look at names alike; conditions: those of each statement. -/
namespace Go.Proofs.YtckbhhaigpajpaaDoor
open Go.RowKit

/-- How many members a set has. -/
def popS (s : Nat) : Nat := (mem s).length

end Go.Proofs.YtckbhhaigpajpaaDoor
