/- It is proved what missedBy and coveredBy return, and how a family in a captured variable grows; conditions: those of each statement. -/
import Derived.RowKit
import Derived.Laws.CopyRow
import Derived.Lib.SlBuf
import Derived.Deep.QuietTactic
import Derived.RangeFuncNested
import Derived.RangeFuncBound
import Derived.RangeFuncCalls
import Derived.RangeFuncLeaves
import Derived.RangeFuncBox
import Derived.RangeFuncWrites
import Derived.StillTailTactics
import Derived.Maps.OwnIn
import Derived.Maps.Ext
import Derived.DeepKeys4
import Derived.MapKept
import Derived.Test.YtckbhhaigpajpaaRows
import Derived.WalkKit
import Derived.WalkSpells
import Derived.ProofKit
import Derived.OpenShut
import Derived.ShutString
import Derived.ChangeOld
import Derived.Below
import Derived.Deep.RegionHeld3
import Derived.BigQuiet
import Derived.Lib.Hide
import Derived.Lib.SmallJoins
import Derived.Outline
import Derived.Laws.MakeOwn
import Derived.Laws.OwnMore
import Derived.IntWalk
import Derived.Deep.RegionLaw
import Derived.Deep.AppendLies
import Derived.Lib.AppendZeros
import Derived.Maps.AppendAt
import Derived.OwnWalk
import Derived.Lib.SlicesCompact
import Derived.Lib.OwnBridge
import Derived.OrdersIn
import Derived.TacticsIn
import Derived.Shelf.Sort.Plain
import Derived.Shelf.Slices.In.SortNone
import Derived.Shelf.Slices.CompactI
import Derived.Ground.Names2Prog
import Derived.Lib.SliceRun
import Derived.Shelf.Abstract
import Derived.Shelf.RegionOpen
import Derived.OwnWalkIn
import Derived.TacticsInMore
import Derived.LoopNIn
import Derived.LoopIn
import Derived.StillTail
import Derived.StillTactics
import Derived.Shelf.Spec.TrailingZeros
import Derived.Test.YtckbhhaigpajpaaRaab
import Derived.Test.YtckbhhaigpajpaaRaai
import Derived.Test.YtckbhhaigpajpaaRaac
import Derived.Laws.BitsAllLaws
import Derived.Deep.LoopGhost
import Derived.Test.YtckbhhaigpajpaaRaah
import Derived.Test.YtckbhhaigpajpaaRaaa
import Derived.Test.YtckbhhaigpajpaaRaad
import Derived.Test.YtckbhhaigpajpaaRaae
namespace Go.Proofs.Ytckbhhaigpajpaa
open Go.RowKit Go.Shelf

attribute [local go_sem] Oper.semAt_some

theorem hasBlk_not_row {W : World} {B : Nat} {t e : TypeId} {cs : Array Value} (h : HasBlk W B cs t) (hte : t ≠ e) {base size k : Nat} {v : Value} {xs : List Value} (hr : W.ownsRow base e size v k xs) : some B ≠ v.ownBlock := by
  rcases hr.2 with ⟨rfl, _⟩ | ⟨g, cap, cur, rfl, _, hgb, _⟩
  · simp [Value.ownBlock]
  · intro e'
    obtain rfl : B = g := by simpa [Value.ownBlock] using e'
    have := (show W.heap[B]? = _ from h).symm.trans hgb
    simp at this
    exact hte this.2

theorem obj_ne {cs cs' : Array Value} {t : TypeId} {z z' : Nat × Nat} (h : t ≠ 3) : Obj.cells cs t z ≠ Obj.cells cs' 3 z' := fun e => by injection e with _ e; exact h e
theorem HasBlk.butF {lo D l b : Nat} {A B : World} {cs : Array Value} {t : TypeId} (h : HasBlk A b cs t) (hb : ButF lo D l A B) (h1 : b ≠ l) (h2 : b ≠ D) (h3 : t ≠ 3) : HasBlk B b cs t := hb.keep h h1 h2 (fun _ _ _ => obj_ne h3)
/-- Clubs are sets of m members, whatever their number. -/
def Sets (m : Nat) (zs : List Int) : Prop := ∀ z ∈ zs, 0 ≤ z ∧ z.toNat < 2 ^ m

def IsSet (m : Nat) (p : Nat × Int) : Prop := 0 ≤ p.2 ∧ p.2.toNat < 2 ^ m
theorem Sets.at_ {m : Nat} {zs : List Int} (h : Sets m zs) : ∀ k, k < zs.length → IsSet m (k, zs[k]?.getD 0) := fun k hk => by
  rw [List.getElem?_eq_getElem hk]
  exact h _ (List.getElem_mem hk)

theorem sets_of_fam {m : Nat} {zs : List Int} (h : famIn (m : Int) zs = true) : Sets m zs := fun z hz => by
  obtain ⟨h1, h2, -, h4⟩ := famIn_out h
  have := h4 z hz
  unfold fullI at this
  rw [Int.toNat_natCast] at this
  have e : (2 : Int) ^ m = ((2 ^ m : Nat) : Int) := by norm_cast
  omega

def sndL {m : Nat} (ys : List { p // IsSet m p }) : List Int := ys.map (·.1.2)
theorem sndL_snoc {m : Nat} (ys : List { p // IsSet m p }) (y : { p // IsSet m p }) : sndL (ys ++ [y]) = sndL ys ++ [y.1.2] := by simp [sndL]
theorem sndL_all {m : Nat} {zs : List Int} {ys : List { p // IsSet m p }} (h : ys.map (·.1) = pairs zs zs.length) : sndL ys = zs := by
  have := congrArg (List.map (·.2)) h
  rw [pairs_all, List.map_map] at this
  exact this

end Go.Proofs.Ytckbhhaigpajpaa

/- It is proved what l8Common, MeetHelly and MeetMost of the model return; conditions: those of each statement. -/
namespace Go.Proofs.Ytckbhhaigpajpaa
open Go.RowKit Go.Shelf

/-- The common members of the clubs at the places of a set, the first j of them. -/
def comTo (m : Nat) (zs : List Int) (p j : Nat) : Nat := (List.range j).foldl (fun s i => if p.testBit i then s &&& (zs[i]?.getD 0).toNat else s) (2 ^ m - 1)

theorem comTo_succ (m : Nat) (zs : List Int) (p j : Nat) : comTo m zs p (j + 1) = if p.testBit j then comTo m zs p j &&& (zs[j]?.getD 0).toNat else comTo m zs p j := by
  unfold comTo
  rw [List.range_succ, List.foldl_append]
  rfl

theorem comTo_lt (m : Nat) (zs : List Int) (p : Nat) : ∀ j, comTo m zs p j < 2 ^ m
  | 0 => by have : 1 ≤ 2 ^ m := Nat.one_le_two_pow; show 2 ^ m - 1 < 2 ^ m; omega
  | j + 1 => by
    rw [comTo_succ]
    split
    · exact Nat.lt_of_le_of_lt Nat.and_le_left (comTo_lt m zs p j)
    · exact comTo_lt m zs p j

theorem comTo_bit (m : Nat) (zs : List Int) (p v : Nat) : ∀ j, (comTo m zs p j).testBit v = true ↔ v < m ∧ ∀ i, i < j → p.testBit i = true → (zs[i]?.getD 0).toNat.testBit v = true
  | 0 => by simp [comTo, Nat.testBit_two_pow_sub_one]
  | j + 1 => by
    rw [comTo_succ]
    cases h : p.testBit j
    · simp only [Bool.false_eq_true, if_false]
      rw [comTo_bit m zs p v j]
      constructor
      · rintro ⟨h1, h2⟩
        refine ⟨h1, fun i hi hp => ?_⟩
        rcases Nat.lt_succ_iff_lt_or_eq.1 hi with h3 | rfl
        · exact h2 i h3 hp
        · rw [h] at hp; cases hp
      · rintro ⟨h1, h2⟩
        exact ⟨h1, fun i hi => h2 i (by omega)⟩
    · simp only [if_true]
      rw [Nat.testBit_and, Bool.and_eq_true, comTo_bit m zs p v j]
      constructor
      · rintro ⟨⟨h1, h2⟩, h3⟩
        refine ⟨h1, fun i hi hp => ?_⟩
        rcases Nat.lt_succ_iff_lt_or_eq.1 hi with h4 | rfl
        · exact h2 i h4 hp
        · exact h3
      · rintro ⟨h1, h2⟩
        exact ⟨⟨h1, fun i hi => h2 i (by omega)⟩, h2 j (by omega) h⟩

set_option maxRecDepth 100000 in
set_option maxHeartbeats 2000000 in
theorem l8Common_any (m : Nat) (hm1 : 1 ≤ m) (hm6 : m ≤ 6) (a : Option Addr) (c : Nat) (zs : List Int) (p : Nat) (hp : p < 256) (w : World) (ha : Ints w w.heap.size a zs) (h8 : zs.length ≤ 8) (hS : Sets m zs) :
    Calls Try.prog 23 #[.agg #[.int .i64 (m : Int), .slice a zs.length c], .int .i64 (p : Int)] w fun e w' => e = .returned (.int .i64 ((comTo m zs p zs.length : Nat) : Int)) ∧ Below w.heap.size w w' := by
  have F1 := FB.start (m := (m : Int)) (c := c) ha
  have HB0 := Lib.hid (below1 w (.cells #[.int .i64 (m : Int), .slice a zs.length c] 25))
  have HF1 := Lib.hid F1
  have HSET := Lib.hid hS
  have HC64 : Hid (∀ j, comTo m zs p j < 64) := Lib.hid fun j => p64 hm6 (comTo_lt m zs p j)
  have HSU : Hid (∀ j, comTo m zs p (j + 1) = if p.testBit j then comTo m zs p j &&& (zs[j]?.getD 0).toNat else comTo m zs p j) := Lib.hid (comTo_succ m zs p)
  have HST : Hid (fullI (m : Int) = ((comTo m zs p 0 : Nat) : Int)) := Lib.hid (full_nat m)
  have f_0 := F1.x0
  have f_1 := F1.x1
  obtain ⟨n, hn⟩ : ∃ n, n = zs.length := ⟨_, rfl⟩
  have HN := Lib.hid hn
  obtain ⟨C, hC⟩ : ∃ C : Nat → Nat, C = comTo m zs p := ⟨_, rfl⟩
  rw [← hC] at HC64 HSU HST ⊢
  rw [← hn] at h8 f_1 HB0 ⊢
  clear F1 ha hS hn hC
  go_enter Try.func23, Try.ntmps23
  go_wp2_with fail
  rw [HN.out]
  refine (l1All_any (m : Int) a _ c _ (by omega) (by omega)).mono ?_
  rintro e w1 ⟨rfl, rfl⟩
  rw [← HN.out, HST.out]
  have HF2 := Lib.hid (HF1.out.step (below1 _ (.cells #[.int .i64 (m : Int), .slice a n c] 25)))
  have HB2 := Lib.hid (HB0.out.trans ((below1 (w.alloc (.cells #[.int .i64 (m : Int), .slice a n c] 25)) (.cells #[.int .i64 (m : Int), .slice a n c] 25)).mono (by simp)))
  rw [← HN.out] at HF2
  obtain ⟨W, hW⟩ : ∃ W, W = (w.alloc (.cells #[.int .i64 (m : Int), .slice a n c] 25)).alloc (.cells #[.int .i64 (m : Int), .slice a n c] 25) := ⟨_, rfl⟩
  rw [← hW] at HF2 HB2 ⊢
  clear f_0 f_1 hW HB0 HF1
  have f_0 := HF2.out.x0
  have f_1 := HF2.out.x1
  rw [← HN.out] at f_1
  go_wp2
  go_loop [5, 6] (fun s i => ∃ j : Nat, j ≤ n ∧ i = .int .i64 (j : Int) ∧ s = .int .i64 ((C j : Nat) : Int)) (fun _ i => n - (intOf i).toNat)
  case atStart => exact ⟨0, Nat.zero_le _, rfl, rfl⟩
  case round =>
    obtain ⟨j, hj, rfl, rfl⟩ := hrel
    by_cases hlt : j < n
    · have hji : (j : Int) < (n : Int) := by omega
      have hj0 : (0 : Int) ≤ (j : Int) := by omega
      obtain ⟨b, off, rfl, hbb, hcc⟩ := HF2.out.ints.at_ (k := j) (by rw [← HN.out]; exact hlt)
      have hzm := HSET.out _ (getD_mem (zs := zs) (i := j) (by rw [← HN.out]; exact hlt))
      obtain ⟨z, hz⟩ : ∃ z : Nat, zs[j]?.getD 0 = (z : Int) := ⟨(zs[j]?.getD 0).toNat, by have := hzm.1; omega⟩
      have hz64 : z < 64 := by have := p64 hm6 hzm.2; rw [hz, Int.toNat_natCast] at this; exact this
      have HS1 := HSU.out j
      rw [hz, Int.toNat_natCast] at HS1
      rw [hz] at hcc
      have hA64 := HC64.out j
      obtain ⟨A, hA⟩ : ∃ A, A = C j := ⟨_, rfl⟩
      rw [← hA] at HS1 hA64 ⊢
      have han : bits BinOp.and IntKind.i64 (A : Int) (z : Int) = ((A &&& z : Nat) : Int) := and_at8 (by omega) (by omega)
      have hbk : (bits BinOp.and IntKind.i64 ((p : Int) / 2 ^ j) 1 == 1) = p.testBit j := has8_fin ⟨p, hp⟩ ⟨j, by omega⟩
      clear hz hzm hA
      cases hb : p.testBit j
      · rw [hb] at hbk HS1
        simp only [Bool.false_eq_true, if_false] at HS1
        clear hb han
        go_wp2
        go_round
        case rel => exact ⟨j + 1, by omega, by go_num, by rw [HS1]⟩
        case measure => simp [intOf]; omega
      · rw [hb] at hbk HS1
        simp only [if_true] at HS1
        clear hb
        go_wp2
        go_round
        case rel => exact ⟨j + 1, by omega, by go_num, by rw [HS1]⟩
        case measure => simp [intOf]; omega
    · obtain rfl : j = n := by omega
      go_wp2
      go_ret
      exact ⟨rfl, HB2.out⟩

theorem cast_pow2 (n : Nat) : ((2 ^ n : Nat) : Int) = (2 : Int) ^ n := by norm_cast
end Go.Proofs.Ytckbhhaigpajpaa

/- It is proved what triedCovers returns; conditions: those of each statement. -/
namespace Go.Proofs.Ytckbhhaigpajpaa
open Go.RowKit Go.Shelf

attribute [local go_sem] Oper.semAt_some

theorem HasBlk.ownF {β : Type} {B b : Nat} (hb : b < B) (cs : Array Value) (t : TypeId) : OwnF B (fun (_ : β) W => HasBlk W b cs t) := fun s X Y row hs hg hrow =>
  hs.kept hg (fun e' => by have := (hrow b e').1; omega)

end Go.Proofs.Ytckbhhaigpajpaa

/- It is proved what CoverIn of the program and of the reference model returns; conditions: those of each statement. -/
namespace Go.Proofs.Ytckbhhaigpajpaa
open Go.RowKit

theorem fam_nat2 {m : Int} {zs : List Int} (h : famIn m zs = true) : ∃ k : Nat, m = (k : Int) ∧ 1 ≤ k ∧ k ≤ 6 ∧ Sets k zs ∧ zs.length ≤ 8 := by
  obtain ⟨h1, h2, h3, -⟩ := famIn_out h
  obtain ⟨k, rfl⟩ : ∃ k : Nat, m = (k : Int) := ⟨m.toNat, by omega⟩
  exact ⟨k, rfl, by omega, by omega, sets_of_fam h, h3⟩

end Go.Proofs.Ytckbhhaigpajpaa
