/- It is proved that the call of the law FnExactFamilyDegrees returns true, given what the two functions return; conditions: those of each statement. -/
import Derived.Test.YtobjmiaanoheeaaDoorRows
import Derived.WalkKit
import Derived.WalkSpells
import Derived.ProofKit
import Derived.OpenShut
import Derived.ShutString
import Derived.ChangeOld
import Derived.Below
import Derived.Deep.RegionHeld3
import Derived.Deep.QuietTactic
import Derived.BigQuiet
import Derived.Lib.Hide
import Derived.Lib.SmallJoins
import Derived.Outline
import Derived.Laws.MakeOwn
import Derived.Laws.OwnMore
import Derived.IntWalk
import Derived.Shelf.Spec.TrailingZeros
import Derived.Test.YtobjmiaanoheeaaDoorRaaa
import Derived.Test.YtobjmiaanoheeaaDoorRaab
import Derived.Test.YtobjmiaanoheeaaDoorRaac
import Derived.OwnWalk
import Derived.RowKit
import Derived.Laws.CopyRow
import Derived.Lib.SlBuf
import Derived.RangeFuncNested
import Derived.RangeFuncBound
import Derived.RangeFuncCalls
import Derived.RangeFuncLeaves
import Derived.RangeFuncBox
import Derived.RangeFuncWrites
import Derived.StillTailTactics
import Derived.Maps.OwnIn
import Derived.Maps.Ext
import Derived.DeepKeys4
import Derived.MapKept
import Derived.Deep.RegionLaw
import Derived.Deep.AppendLies
import Derived.Lib.AppendZeros
import Derived.Maps.AppendAt
import Derived.Lib.SlicesCompact
import Derived.Lib.OwnBridge
import Derived.OrdersIn
import Derived.TacticsIn
import Derived.Shelf.Sort.Plain
import Derived.Shelf.Slices.In.SortNone
import Derived.Shelf.Slices.CompactI
import Derived.Ground.Names2Prog
import Derived.Lib.SliceRun
import Derived.Laws.BitsAllLaws
import Derived.Shelf.Abstract
import Derived.Shelf.RegionOpen
import Derived.OwnWalkIn
import Derived.TacticsInMore
import Derived.LoopNIn
import Derived.LoopIn
import Derived.StillTail
import Derived.StillTactics
import Derived.Test.YtobjmiaanoheeaaDoorRaam
import Derived.Test.YtobjmiaanoheeaaDoorRaae
import Derived.Test.YtobjmiaanoheeaaDoorRaas
import Derived.Test.YtobjmiaanoheeaaDoorIb
import Derived.Test.YtobjmiaanoheeaaDoorRaai
import Derived.Test.YtobjmiaanoheeaaDoorRaap
namespace Go.Proofs.YtobjmiaanoheeaaDoor
open Go.RowKit

/-- What a function of a family that hands back a list and a bool returns. -/
def RetSB (w : World) (zs : List Int) (ok : Bool) (e : Ending) (w' : World) : Prop :=
  ∃ a cap, e = .returned (.tuple #[.slice a zs.length cap, .bool ok]) ∧ OwnI w' w.heap.size (.slice a zs.length cap) zs ∧ Below w.heap.size w w'

/-- A list of ints of the call's own, in a block of lo, .., hi - 1 (or nil). -/
structure XO (lo hi : Nat) (a : Option Addr) (n cap : Nat) (zs : List Int) (W : World) : Prop where
  own : OwnN W lo a n cap zs
  rng : ∀ g, (Value.slice a n cap).ownBlock = some g → lo ≤ g ∧ g < hi
  size : hi ≤ W.heap.size

theorem XO.ints {lo hi : Nat} {a : Option Addr} {n cap : Nat} {zs : List Int} {W : World} (h : XO lo hi a n cap zs W) : Ints W W.heap.size a zs := by
  have h1 := h.own
  have hl : zs.length = n := by have := h1.1; simpa using this
  subst hl
  exact own_ints (n := zs.length) (cap := cap) (B := lo) h1

theorem XO.kept {lo hi : Nat} {a : Option Addr} {n cap : Nat} {zs : List Int} {W W' : World} {row : Option Nat} (h : XO lo hi a n cap zs W) (hg : W.grownBy W' row) (hr : ∀ g, row = some g → g < lo ∨ hi ≤ g) : XO lo hi a n cap zs W' := by
  refine ⟨World.ownsRow.kept h.own hg ?_, h.rng, Nat.le_trans h.size hg.size⟩
  cases ho : (Value.slice a n cap).ownBlock with
  | none => exact .inl rfl
  | some g =>
    right
    intro e
    have h1 := h.rng g ho
    have h2 := hr g e.symm
    omega

theorem XO.step {lo hi : Nat} {a : Option Addr} {n cap : Nat} {zs : List Int} {W W' : World} (h : XO lo hi a n cap zs W) (hb : Below W.heap.size W W') : XO lo hi a n cap zs W' :=
  h.kept (only_of_below hb none) (fun g e => by cases e)

theorem XO.drew {lo hi : Nat} {a : Option Addr} {n cap : Nat} {zs : List Int} {W : World} (h : XO lo hi a n cap zs W) : XO lo hi a n cap zs W.drew := ⟨h.own, h.rng, h.size⟩
theorem XO.marked {lo hi : Nat} {a : Option Addr} {n cap : Nat} {zs : List Int} {W W' : World} (h : XO lo hi a n cap zs W) (ho : OwnI W' lo (.slice a n cap) (marks n)) (hg : W.grownBy W' (Value.slice a n cap).ownBlock) : XO lo hi a n cap (marks n) W' := by
  refine ⟨?_, h.rng, Nat.le_trans h.size hg.size⟩
  have := ho
  unfold OwnI at this
  rwa [marks_length] at this

theorem XO.start {w : World} {lo : Nat} {a : Option Addr} {cap : Nat} {zs : List Int} (ho : OwnI w lo (.slice a zs.length cap) zs) : XO lo w.heap.size a zs.length cap zs w :=
  ⟨ho, fun g e => World.ownsRow.lt ho g e, Nat.le_refl _⟩

theorem XO.ownI {lo hi : Nat} {a : Option Addr} {cap : Nat} {zs : List Int} {W : World} (h : XO lo hi a zs.length cap zs W) : OwnI W lo (.slice a zs.length cap) zs := h.own
theorem sameB_self (zs : List Int) : sameB zs zs = true := by simp [sameB]
end Go.Proofs.YtobjmiaanoheeaaDoor

/- It is proved what mates, MeetPairs and MeetClubs of the program return; conditions: those of each statement. -/
namespace Go.Proofs.YtobjmiaanoheeaaDoor
open Go.RowKit Go.Shelf

/-- For each member the others of the clubs with it. -/
def mateTo (zs : List Int) (j : Nat) : List Int := (List.range j).map fun v => ((anN (arN v zs) (2 ^ v) : Nat) : Int)

theorem mateTo_len (zs : List Int) (j : Nat) : (mateTo zs j).length = j := by simp [mateTo]
theorem mateTo_succ (zs : List Int) (j : Nat) : mateTo zs (j + 1) = mateTo zs j ++ [((anN (arN j zs) (2 ^ j) : Nat) : Int)] := by simp [mateTo, List.range_succ]
set_option maxRecDepth 100000 in
set_option maxHeartbeats 4000000 in
theorem mates8_any (k : Nat) (hk8 : k ≤ 8) (a : Option Addr) (c : Nat) (zs : List Int) (w : World) (ha : Ints w w.heap.size a zs) (h8 : zs.length ≤ 8) (hz : Sets k zs) :
    Calls Tryd.prog 68 #[.agg #[.int .i64 (k : Int), .slice a zs.length c]] w fun e w' => ∃ (a' : Option Addr) (c' : Nat), e = .returned (.slice a' k c') ∧ OwnI w' w.heap.size (.slice a' k c') (mateTo zs k) ∧ Below w.heap.size w w' := by
  obtain ⟨i0, hi0, hz0, hz1, hz2⟩ := info_parts Tryd.info3
  have F1 := FB.start (m := (k : Int)) (c := c) ha
  obtain ⟨W1, hW1⟩ : ∃ W1, W1 = w.alloc (.cells #[.int .i64 (k : Int), .slice a zs.length c] 25) := ⟨_, rfl⟩
  have hs1 : W1.heap.size = w.heap.size + 1 := by rw [hW1]; simp
  have hb1 : Below w.heap.size w W1 := by rw [hW1]; exact below1 w _
  rw [← hW1] at F1
  have HF1 := Lib.hid F1
  have HB1 := Lib.hid hb1
  have HS1 := Lib.hid hs1
  have HAR : Hid (∀ v W, v < 8 → Ints W W.heap.size a zs → Calls Tryd.prog 84 #[.agg #[.int .i64 (k : Int), .slice a zs.length c], .int .i64 ((v : Nat) : Int)] W fun e w' => e = .returned (.int .i64 ((arN v zs : Nat) : Int)) ∧ Below W.heap.size W w') := Lib.hid fun v W hv hi => around8_any k hk8 a c zs v hv W hi h8 hz
  have HAL : Hid (∀ v, arN v zs < 256) := Lib.hid fun v => p256 hk8 (arN_lt hz)
  have f_0 := F1.x0
  have f_1 := F1.x1
  rw [hW1] at f_0 f_1
  have HW1 := Lib.hid hW1
  clear F1 ha hz hs1 hb1 hW1
  obtain ⟨w2, hrun, hown, hgrow⟩ := run_make_own (P := Tryd.prog) W1 W1.heap.size 23 3 i0 (.int .i64 0) 1 Tryd.underlying23 hi0 hz0 hz1 .i64 .i64 k (by rw [hz2]; omega) (by simp only [maxLen]; omega) (Nat.le_refl _)
  have hb2 : Below W1.heap.size W1 w2 := (Below.refl _ _).grown hgrow (Nat.le_refl _) (by simp)
  have HO2 := Lib.hid hown
  have HB2 := Lib.hid hb2
  have f_2 := (HF1.out.step hb2).x0
  clear hown hgrow hb2
  rw [HW1.out] at hrun
  go_enter Tryd.func68, Tryd.ntmps68
  go_wp2
  clear f_0 f_1 f_2 hrun
  go_loopw [3, 10] (fun v i wr => ∃ (j : Nat) (a' : Option Addr) (c' : Nat), j ≤ k ∧ i = .int .i64 (j : Int) ∧ v = .slice a' j c' ∧ wr.ownsRow W1.heap.size 3 1 (.slice a' j c') j ((mateTo zs j).map (Value.int .i64)) ∧ Below W1.heap.size W1 wr) (fun _ i _ => k - (intOf i).toNat)
  case atStart => exact ⟨0, _, _, Nat.zero_le _, rfl, rfl, by have := HO2.out; simpa [mateTo, HS1.out] using this, HB2.out⟩
  case round =>
    obtain ⟨j, a', c', hk, rfl, rfl, ho, hb⟩ := hrel
    by_cases hlt : j < k
    · have hk1 : (j : Int) < (k : Int) := by omega
      have HO := Lib.hid ho
      have HB := Lib.hid hb
      have HF := Lib.hid (HF1.out.step hb)
      have HC := Lib.hid (HAR.out j wr (by omega) HF.out.ints)
      have HA256 := HAL.out j
      obtain ⟨A, hA⟩ : ∃ A, A = arN j zs := ⟨_, rfl⟩
      rw [← hA] at HC HA256
      have HMT : Hid (mateTo zs (j + 1) = mateTo zs j ++ [((anN A (2 ^ j) : Nat) : Int)]) := Lib.hid (by rw [mateTo_succ, hA])
      have f_0 := HF.out.x0
      have f_1 := HF.out.x1
      clear ho hb hA
      go_wp2_with fail
      refine HC.out.mono ?_
      rintro e w3 ⟨rfl, hb3⟩
      have HB3 := Lib.hid (HB.out.trans (hb3.mono HB.out.size))
      have HO3 := Lib.hid (ownsRow_below HO.out hb3)
      clear hb3 f_0 f_1
      go_wp2_with fail
      refine (without8_any A j HA256 (by omega) w3).mono ?_
      rintro e w4 ⟨rfl, rfl⟩
      have hsz := HB3.out.size
      go_wp2_with (at_builtin; refine wpList_append_own _ rfl _ _ 23 rfl W1.heap.size 3 i0 (.int .i64 0) 1 8 Tryd.underlying23 hi0 hz0 hz1 hz2 rfl (by decide) _ _ _ rfl (HO3.out.alloc _) ⟨w3.heap.size, 0, none⟩ 1 1 [.int .i64 ((anN A (2 ^ j) : Nat) : Int)] rfl rfl (cell_one_new _ _ _) (by simp [Value.oneCell']) (by simp only [maxLen]; omega) (by omega) (by simp; omega) ?_; intro v' w9 hown hgrow _; obtain ⟨g', cap', rfl, _, _⟩ := World.ownsRow.form hown (by omega))
      go_roundw
      case rel => exact ⟨j + 1, _, _, by omega, by go_num, rfl, by rw [HMT.out, List.map_append]; simpa using hown, (HB3.out.alloc (by omega) _).grown hgrow (by simp; omega) (fun g e => (World.ownsRow.lt HO3.out g e).1)⟩
      case measure => simp [intOf]; omega
    · obtain rfl : j = k := by omega
      have HD : Hid (∃ (a'' : Option Addr) (c'' : Nat), Value.slice a' j c' = .slice a'' j c'' ∧ OwnI wr w.heap.size (.slice a'' j c'') (mateTo zs j) ∧ Below w.heap.size w wr) := by
        refine Lib.hid ⟨a', c', rfl, ?_, HB1.out.trans (hb.mono (by have := HS1.out; omega))⟩
        unfold OwnI
        rw [mateTo_len]
        exact ownsRow_base ho (by have := HS1.out; omega)
      clear ho hb
      go_wp2
      go_ret
      obtain ⟨a'', c'', h1, h2, h3⟩ := HD.out
      exact ⟨a'', c'', by rw [← h1]; rfl, h2, h3⟩

def pairsZ (m : Int) (zs : List Int) : List Int := if famIn m zs then mateTo zs m.toNat else []
theorem pairsZ_len (m : Int) (zs : List Int) : (pairsZ m zs).length ≤ 1048576 := by
  unfold pairsZ
  split
  · rename_i h
    have := famIn_out h
    rw [mateTo_len]; omega
  · simp

set_option maxRecDepth 100000 in
set_option maxHeartbeats 2000000 in
theorem implPairs8_any (m : Int) (a : Option Addr) (c : Nat) (zs : List Int) (w : World) (ha : Ints w w.heap.size a zs) (hx : zs.length ≤ 1048576) :
    Calls Tryd.prog 22 #[.agg #[.int .i64 m, .slice a zs.length c]] w (RetSB w (pairsZ m zs) (famIn m zs)) := by
  have F1 := FB.start (m := m) (c := c) ha
  have HB0 := Lib.hid (below1 w (.cells #[.int .i64 m, .slice a zs.length c] 25))
  have HF1 := Lib.hid F1
  have HFI := Lib.hid (implFamilyIn_any m a c zs _ F1.ints hx)
  have f_0 := F1.x0
  have f_1 := F1.x1
  clear F1 ha
  cases hf : famIn m zs
  · have HF := Lib.hid hf
    have HR : Hid (pairsZ m zs = []) := Lib.hid (by unfold pairsZ; rw [hf]; rfl)
    clear hf
    go_enter Tryd.func22, Tryd.ntmps22
    go_wp2_with fail
    refine HFI.out.mono ?_
    rintro e w2 ⟨rfl, hb2⟩
    rw [HF.out]
    have HB2 := Lib.hid (HB0.out.trans (hb2.mono (by simp)))
    clear hb2 f_0 f_1
    go_wp2
    go_ret2
    exact ⟨none, 0, by rw [HR.out]; rfl, by rw [HR.out]; exact own_nil _ _, HB2.out⟩
  · have HF := Lib.hid hf
    obtain ⟨k, rfl, hk1, hk6, hset, hl8⟩ := fam_nat2 hf
    have HR : Hid (pairsZ (k : Int) zs = mateTo zs k) := Lib.hid (by unfold pairsZ; rw [hf, Int.toNat_natCast]; rfl)
    have HL : Hid ((pairsZ (k : Int) zs).length = k) := Lib.hid (by rw [HR.out, mateTo_len])
    have HSET := Lib.hid hset
    clear hf hset
    go_enter Tryd.func22, Tryd.ntmps22
    go_wp2_with fail
    refine HFI.out.mono ?_
    rintro e w2 ⟨rfl, hb2⟩
    rw [HF.out]
    have HF2 := Lib.hid (HF1.out.step hb2)
    have HB2 := Lib.hid (HB0.out.trans (hb2.mono (by simp)))
    have HC := Lib.hid (mates8_any k (by omega) a c zs w2 HF2.out.ints hl8 HSET.out)
    clear hb2 f_0 f_1
    have f_0 := HF2.out.x0
    have f_1 := HF2.out.x1
    go_wp2_with fail
    refine HC.out.mono ?_
    rintro e w3 ⟨a3, c3, rfl, ho3, hb3⟩
    have HB3 := Lib.hid (HB2.out.trans (hb3.mono HB2.out.size))
    have HO3 : Hid (OwnI w3 w.heap.size (.slice a3 (pairsZ (k : Int) zs).length c3) (pairsZ (k : Int) zs)) := Lib.hid (by rw [HL.out, HR.out]; exact own_mono ho3 HB2.out.size)
    clear hb3 ho3
    go_wp2
    go_ret2
    exact ⟨a3, c3, by rw [HL.out]; rfl, HO3.out, HB3.out⟩

end Go.Proofs.YtobjmiaanoheeaaDoor

/- It is proved what has, namesIn, l1Names and l1Called return; conditions: those of each statement. -/
namespace Go.Proofs.YtobjmiaanoheeaaDoor
open Go.RowKit

set_option maxRecDepth 100000 in
theorem bit_if : ∀ s, s < 64 → ∀ u, u < 6 → ((s >>> u) &&& 1) = if s.testBit u then 1 else 0 := by decide +kernel

end Go.Proofs.YtobjmiaanoheeaaDoor
