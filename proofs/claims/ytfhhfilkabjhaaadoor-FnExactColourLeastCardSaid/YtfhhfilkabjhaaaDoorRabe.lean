/- It is proved what the reference model's l7Many, ColourMany and ColourFirst return; conditions: those of each statement. -/
import Derived.RowKit
import Derived.Laws.CopyRow
import Derived.Lib.SlBuf
import Derived.Deep.QuietTactic
import Derived.RangeFuncNested
import Derived.RangeFuncBound
import Derived.RangeFuncCalls
import Derived.RangeFuncLeaves
import Derived.RangeFuncBox
import Derived.RangeFuncWrites
import Derived.StillTailTactics
import Derived.Maps.OwnIn
import Derived.Maps.Ext
import Derived.DeepKeys4
import Derived.MapKept
import Derived.Test.YtfhhfilkabjhaaaDoorRows
import Derived.WalkKit
import Derived.WalkSpells
import Derived.ProofKit
import Derived.OpenShut
import Derived.ShutString
import Derived.ChangeOld
import Derived.Below
import Derived.Deep.RegionHeld3
import Derived.BigQuiet
import Derived.Lib.Hide
import Derived.Lib.SmallJoins
import Derived.Outline
import Derived.Laws.MakeOwn
import Derived.Laws.OwnMore
import Derived.IntWalk
import Derived.Maps.AppendAt
import Derived.Sort.MapsRangeIn
import Derived.Deep.RegionLaw
import Derived.Deep.AppendLies
import Derived.Lib.AppendZeros
import Derived.OwnWalk
import Derived.Lib.SlicesCompact
import Derived.Lib.OwnBridge
import Derived.OrdersIn
import Derived.TacticsIn
import Derived.Shelf.Sort.Plain
import Derived.Shelf.Slices.In.SortNone
import Derived.Shelf.Slices.CompactI
import Derived.Ground.Names2Prog
import Derived.Lib.SliceRun
import Derived.Shelf.RegionOpen
import Derived.Shelf.Abstract
import Derived.OwnWalkIn
import Derived.TacticsInMore
import Derived.LoopNIn
import Derived.LoopIn
import Derived.StillTail
import Derived.StillTactics
import Derived.Shelf.Spec.TrailingZeros
import Derived.Deep.LoopGhost
import Derived.Test.YtfhhfilkabjhaaaDoorRaac
import Derived.Test.YtfhhfilkabjhaaaDoorRaaa
import Derived.Test.YtfhhfilkabjhaaaDoorRaad
import Derived.Test.YtfhhfilkabjhaaaDoorRaab
import Derived.Test.YtfhhfilkabjhaaaDoorRaae
import Derived.Test.YtfhhfilkabjhaaaDoorJc
import Derived.Test.YtfhhfilkabjhaaaDoorRaao
import Derived.Test.YtfhhfilkabjhaaaDoorRabc
import Derived.Test.YtfhhfilkabjhaaaDoorRabd
import Derived.Test.YtfhhfilkabjhaaaDoorKa
import Derived.Test.YtfhhfilkabjhaaaDoorKc
import Derived.Test.YtfhhfilkabjhaaaDoorRaat
import Derived.Test.YtfhhfilkabjhaaaDoorRaaf
namespace Go.Proofs.YtfhhfilkabjhaaaDoor
open Go.RowKit

theorem in_col (k l : Int) : inB k l 4 = colIn k l := by
  unfold colIn
  by_cases h1 : l ≤ k
  · by_cases h2 : k ≤ 4
    · rw [inB_true h1 h2]; simp [h1, h2]
    · rw [inB_false (.inr (by omega))]; simp [h2]
  · rw [inB_false (.inl (by omega))]; simp [h1]

theorem allM_mix {m : Nat} (hm : m ≤ 6) {zs : List Int} (hz : Sets m zs) {cs : List Int} (hc : cs.length = m) : zs.all (mixM cs) = mixB zs cs := by
  unfold mixB
  rw [Bool.eq_iff_iff, List.all_eq_true, List.all_eq_true]
  refine forall_congr' fun z => forall_congr' fun h => ?_
  rw [mixM_is (by omega) (by rw [hc]; exact (hz z h).2)]

/-- How many of the first lists are mixed. -/
def manyTo (m : Nat) (zs : List Int) (k j : Nat) : Nat := (List.range j).countP fun c => mixB zs (digs k m c)

theorem manyTo_succ (m : Nat) (zs : List Int) (k j : Nat) : manyTo m zs k (j + 1) = manyTo m zs k j + if mixB zs (digs k m j) then 1 else 0 := by
  unfold manyTo
  rw [List.range_succ, List.countP_append]
  cases h : mixB zs (digs k m j) <;> simp [h]

theorem manyTo_all (m : Nat) (zs : List Int) (k : Nat) : manyTo m zs k (k ^ m) = cntCM m zs k := by
  unfold manyTo cntCM
  rw [← digs_words, List.countP_map]
  rfl

theorem manyTo_le (m : Nat) (zs : List Int) (k j : Nat) : manyTo m zs k j ≤ j := by
  unfold manyTo
  exact Nat.le_trans List.countP_le_length (by simp)

theorem pow_le6 {k m : Nat} (hk : k ≤ 6) (hm : m ≤ 6) : k ^ m ≤ 46656 := Nat.le_trans (Nat.pow_le_pow_left hk m) (Nat.le_trans (Nat.pow_le_pow_right (n := 6) (by decide) hm) (by decide))
theorem kpos {k m j : Nat} (hm : 1 ≤ m) (h : j < k ^ m) : 1 ≤ k := by
  cases k with
  | zero => rw [Nat.zero_pow (by omega)] at h; omega
  | succ k => omega

set_option maxRecDepth 100000 in
set_option maxHeartbeats 4000000 in
theorem l7Many_any (m k : Nat) (hm1 : 1 ≤ m) (hm : m ≤ 6) (hk : k ≤ 6) (a : Option Addr) (c : Nat) (zs : List Int) (w : World) (ha : Ints w w.heap.size a zs) (hx : zs.length ≤ 1048576) (hz : Sets m zs) :
    Calls Tryd.prog 50 #[.agg #[.int .i64 (m : Int), .slice a zs.length c], .int .i64 (k : Int)] w fun e w' => e = .returned (.int .i64 ((cntCM m zs k : Nat) : Int)) ∧ Below w.heap.size w w' := by
  have hP := pow_le6 hk hm
  obtain ⟨P, hPP⟩ : ∃ P, P = k ^ m := ⟨_, rfl⟩
  have HP : Hid (∀ W, Calls Tryd.prog 53 #[.int .i64 (k : Int), .int .i64 (m : Int)] W fun e w' => e = .returned (.int .i64 (P : Int)) ∧ W = w') := Lib.hid fun W => by rw [hPP]; exact l7Power_any k m hk hm W
  have HPP := Lib.hid hPP
  rw [← hPP] at hP
  have hz64 : ∀ z ∈ zs, 0 ≤ z ∧ z.toNat < 64 := fun z h => ⟨(hz z h).1, p64 hm (hz z h).2⟩
  obtain ⟨W1, hW1, b0, hs1, hb1⟩ : ∃ W1, w.alloc (.cells #[.int .i64 (m : Int), .slice a zs.length c] 27) = W1 ∧ HasBlk W1 w.heap.size #[.int .i64 (m : Int), .slice a zs.length c] 27 ∧ W1.heap.size = w.heap.size + 1 ∧ Below w.heap.size w W1 := ⟨_, rfl, alloc_new w _, by simp, below1 w _⟩
  have HB1 := Lib.hid hb1
  have HI1 : Hid (Ints W1 W1.heap.size a zs) := Lib.hid ((ha.below hb1).mono (by omega))
  have HKEEP : Hid (∀ W, Below W1.heap.size W1 W → W.cell? ⟨w.heap.size, 0, none⟩ = some (.int .i64 (m : Int)) ∧ W.cell? ⟨w.heap.size, 1, none⟩ = some (.slice a zs.length c)) := Lib.hid fun W hW =>
    ⟨(hW.cell (p := ⟨w.heap.size, 0, none⟩) (show w.heap.size < W1.heap.size by omega)).trans ((blk_cell b0 0).trans (cell2_0 _ _)), (hW.cell (p := ⟨w.heap.size, 1, none⟩) (show w.heap.size < W1.heap.size by omega)).trans ((blk_cell b0 1).trans (cell2_1 _ _))⟩
  have HS1 := Lib.hid hs1
  have HZ := Lib.hid hz
  have HZ64 := Lib.hid hz64
  have HR0 : Hid (Below W1.heap.size W1 W1) := Lib.hid (Below.refl _ _)
  have hm1I : (1 : Int) ≤ (m : Int) := by omega
  have hm6I : (m : Int) ≤ 6 := by omega
  have hPI : (P : Int) ≤ 46656 := by omega
  clear ha b0 hs1 hb1 hPP hz hz64
  go_enter Tryd.func50, Tryd.ntmps50
  go_wp2
  clear hW1
  go_loopw [5, 6] (fun s5 s6 wr => ∃ j : Nat, j ≤ P ∧ s6 = .int .i64 (j : Int) ∧ s5 = .int .i64 ((manyTo m zs k j : Nat) : Int) ∧ Hid (Below W1.heap.size W1 wr)) (fun _ s6 _ => P - (intOf s6).toNat)
  case atStart => exact ⟨0, Nat.zero_le _, rfl, rfl, HR0⟩
  case round =>
    obtain ⟨j, hj, rfl, rfl, HB⟩ := hrel
    clear HR0
    obtain ⟨x0, x1⟩ := HKEEP.out _ HB.out
    have hMl := manyTo_le m zs k j
    obtain ⟨M, hM⟩ : ∃ M, M = manyTo m zs k j := ⟨_, rfl⟩
    have HM := Lib.hid hM
    rw [← hM] at hMl ⊢
    clear hM
    have hjI : (j : Int) ≤ 46656 := by omega
    have hj0 : (0 : Int) ≤ (j : Int) := by omega
    have hMI : (M : Int) ≤ 46656 := by omega
    have hM0 : (0 : Int) ≤ (M : Int) := by omega
    by_cases hlt : j < P
    · have hjP : (j : Int) < (P : Int) := by omega
      have hk1 : 1 ≤ k := kpos hm1 (by rw [← HPP.out]; exact hlt)
      have HCO : Hid (∀ W, Calls Tryd.prog 54 #[.int .i64 (m : Int), .int .i64 (k : Int), .int .i64 (j : Int)] W fun e w' => e = .returned (.slice (some ⟨W.heap.size, 0, none⟩) m m) ∧ Nums w' W.heap.size 3 (digs k m j) ∧ Below W.heap.size W w') := Lib.hid fun W => l7Colours_any m k j hm1 hm hk1 hk (by omega) W
      have HSU := Lib.hid (manyTo_succ m zs k j)
      have HMX : Hid (∀ W (g : Nat), Below W1.heap.size W1 W → Nums W g 3 (digs k m j) → Calls Tryd.prog 55 #[.slice a zs.length c, .slice (some ⟨g, 0, none⟩) m m] W fun e w' => e = .returned (.bool (mixB zs (digs k m j))) ∧ Below W.heap.size W w') := Lib.hid fun W g hW hn => by
        have := l7Mixed_any m hm a c zs (some ⟨g, 0, none⟩) m (digs k m j) (digs_len k m j) W (HI1.out.step hW) (ints_blk (show HasBlk W g (iv (digs k m j)) 3 from hn) _ hn.lt) hx HZ64.out
        rwa [allM_mix hm HZ.out (digs_len k m j)] at this
      have HRX := Lib.hid HB.out
      cases hmx : mixB zs (digs k m j)
      · have HF := Lib.hid hmx
        have HEE : Hid (manyTo m zs k (j + 1) = M) := Lib.hid (by have HE := HSU.out; rw [hmx, ← HM.out] at HE; simpa using HE)
        rw [hmx] at HMX
        clear hmx HSU
        go_wp2_with (go_at_call 53; refine (HP.out _).mono ?_; rintro e w2 ⟨rfl, rfl⟩)
        have hbz : Below W1.heap.size W1 wr.drew := HB.out.drew
        have HDR : Hid (∀ W, Below wr.heap.size wr.drew W → Below W1.heap.size W1 W) := Lib.hid fun W h => HB.out.drew.trans (h.mono HB.out.size)
        go_region_held3 (fun w' => w'.cell? ⟨w.heap.size, 0, none⟩ = some (.int .i64 (m : Int)) ∧ w'.cell? ⟨w.heap.size, 1, none⟩ = some (.slice a zs.length c))
          (first | exact ⟨x0, x1⟩ | exact HKEEP.out _ (by assumption))
          (first
            | (go_at_call 54; refine (HCO.out _).mono ?_; rintro e w3 ⟨rfl, hn3, hb3⟩; have hb31 := HDR.out _ hb3; have HN3 := Lib.hid hn3)
            | (go_at_call 55; refine (HMX.out _ _ (by assumption) HN3.out).mono ?_; rintro e w4 ⟨rfl, hb4⟩; have HB4 := Lib.hid (hb31.trans (hb4.mono hb31.size))))
        all_goals
          go_wp2
          go_roundw
          case rel => exact ⟨j + 1, by omega, by go_num, by rw [HEE.out], HB4⟩
          case measure => simp [intOf]; omega
      · have HF := Lib.hid hmx
        have HEE : Hid (manyTo m zs k (j + 1) = M + 1) := Lib.hid (by have HE := HSU.out; rw [hmx, ← HM.out] at HE; simpa using HE)
        rw [hmx] at HMX
        clear hmx HSU
        go_wp2_with (go_at_call 53; refine (HP.out _).mono ?_; rintro e w2 ⟨rfl, rfl⟩)
        have hbz : Below W1.heap.size W1 wr.drew := HB.out.drew
        have HDR : Hid (∀ W, Below wr.heap.size wr.drew W → Below W1.heap.size W1 W) := Lib.hid fun W h => HB.out.drew.trans (h.mono HB.out.size)
        go_region_held3 (fun w' => w'.cell? ⟨w.heap.size, 0, none⟩ = some (.int .i64 (m : Int)) ∧ w'.cell? ⟨w.heap.size, 1, none⟩ = some (.slice a zs.length c))
          (first | exact ⟨x0, x1⟩ | exact HKEEP.out _ (by assumption))
          (first
            | (go_at_call 54; refine (HCO.out _).mono ?_; rintro e w3 ⟨rfl, hn3, hb3⟩; have hb31 := HDR.out _ hb3; have HN3 := Lib.hid hn3)
            | (go_at_call 55; refine (HMX.out _ _ (by assumption) HN3.out).mono ?_; rintro e w4 ⟨rfl, hb4⟩; have HB4 := Lib.hid (hb31.trans (hb4.mono hb31.size))))
        all_goals
          go_wp2
          go_roundw
          case rel => exact ⟨j + 1, by omega, by go_num, by rw [HEE.out]; go_num, HB4⟩
          case measure => simp [intOf]; omega
    · obtain rfl : j = P := by omega
      have HE : Hid (M = cntCM m zs k) := Lib.hid (by rw [HM.out, HPP.out, manyTo_all])
      have HR : Hid (Below w.heap.size w wr) := Lib.hid (HB1.out.trans (HB.out.mono (by have := HS1.out; omega)))
      go_wp2_with (go_at_call 53; refine (HP.out _).mono ?_; rintro e w2 ⟨rfl, rfl⟩)
      go_ret
      exact ⟨by rw [← HE.out]; rfl, HR.out⟩

end Go.Proofs.YtfhhfilkabjhaaaDoor

/- It is proved that the call of the law FnExactFamilyDegrees returns true, given what the two functions return; conditions: those of each statement. -/
namespace Go.Proofs.YtfhhfilkabjhaaaDoor
open Go.RowKit

/-- What a function of a family that hands back a list and a bool returns. -/
def RetSB (w : World) (zs : List Int) (ok : Bool) (e : Ending) (w' : World) : Prop :=
  ∃ a cap, e = .returned (.tuple #[.slice a zs.length cap, .bool ok]) ∧ OwnI w' w.heap.size (.slice a zs.length cap) zs ∧ Below w.heap.size w w'

/-- A list of ints of the call's own, in a block of lo, .., hi - 1 (or nil). -/
structure XO (lo hi : Nat) (a : Option Addr) (n cap : Nat) (zs : List Int) (W : World) : Prop where
  own : OwnN W lo a n cap zs
  rng : ∀ g, (Value.slice a n cap).ownBlock = some g → lo ≤ g ∧ g < hi
  size : hi ≤ W.heap.size

theorem XO.ints {lo hi : Nat} {a : Option Addr} {n cap : Nat} {zs : List Int} {W : World} (h : XO lo hi a n cap zs W) : Ints W W.heap.size a zs := by
  have h1 := h.own
  have hl : zs.length = n := by have := h1.1; simpa using this
  subst hl
  exact own_ints (n := zs.length) (cap := cap) (B := lo) h1

theorem XO.kept {lo hi : Nat} {a : Option Addr} {n cap : Nat} {zs : List Int} {W W' : World} {row : Option Nat} (h : XO lo hi a n cap zs W) (hg : W.grownBy W' row) (hr : ∀ g, row = some g → g < lo ∨ hi ≤ g) : XO lo hi a n cap zs W' := by
  refine ⟨World.ownsRow.kept h.own hg ?_, h.rng, Nat.le_trans h.size hg.size⟩
  cases ho : (Value.slice a n cap).ownBlock with
  | none => exact .inl rfl
  | some g =>
    right
    intro e
    have h1 := h.rng g ho
    have h2 := hr g e.symm
    omega

theorem XO.step {lo hi : Nat} {a : Option Addr} {n cap : Nat} {zs : List Int} {W W' : World} (h : XO lo hi a n cap zs W) (hb : Below W.heap.size W W') : XO lo hi a n cap zs W' :=
  h.kept (only_of_below hb none) (fun g e => by cases e)

theorem XO.drew {lo hi : Nat} {a : Option Addr} {n cap : Nat} {zs : List Int} {W : World} (h : XO lo hi a n cap zs W) : XO lo hi a n cap zs W.drew := ⟨h.own, h.rng, h.size⟩
theorem XO.marked {lo hi : Nat} {a : Option Addr} {n cap : Nat} {zs : List Int} {W W' : World} (h : XO lo hi a n cap zs W) (ho : OwnI W' lo (.slice a n cap) (marks n)) (hg : W.grownBy W' (Value.slice a n cap).ownBlock) : XO lo hi a n cap (marks n) W' := by
  refine ⟨?_, h.rng, Nat.le_trans h.size hg.size⟩
  have := ho
  unfold OwnI at this
  rwa [marks_length] at this

theorem XO.start {w : World} {lo : Nat} {a : Option Addr} {cap : Nat} {zs : List Int} (ho : OwnI w lo (.slice a zs.length cap) zs) : XO lo w.heap.size a zs.length cap zs w :=
  ⟨ho, fun g e => World.ownsRow.lt ho g e, Nat.le_refl _⟩

theorem XO.ownI {lo hi : Nat} {a : Option Addr} {cap : Nat} {zs : List Int} {W : World} (h : XO lo hi a zs.length cap zs W) : OwnI W lo (.slice a zs.length cap) zs := h.own
theorem sameB_self (zs : List Int) : sameB zs zs = true := by simp [sameB]
end Go.Proofs.YtfhhfilkabjhaaaDoor
