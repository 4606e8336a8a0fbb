/- It is proved what standing, unbroken and evenIn return; conditions: those of each statement. -/
import Derived.RowKit
import Derived.Laws.CopyRow
import Derived.Lib.SlBuf
import Derived.Deep.QuietTactic
import Derived.RangeFuncNested
import Derived.RangeFuncBound
import Derived.RangeFuncCalls
import Derived.RangeFuncLeaves
import Derived.RangeFuncBox
import Derived.RangeFuncWrites
import Derived.StillTailTactics
import Derived.Maps.OwnIn
import Derived.Maps.Ext
import Derived.DeepKeys4
import Derived.MapKept
import Derived.Test.YtgjcjllhkkkioaaDoorRows
import Derived.WalkKit
import Derived.WalkSpells
import Derived.ProofKit
import Derived.OpenShut
import Derived.ShutString
import Derived.ChangeOld
import Derived.Below
import Derived.Deep.RegionHeld3
import Derived.BigQuiet
import Derived.Lib.Hide
import Derived.Lib.SmallJoins
import Derived.Outline
import Derived.Laws.MakeOwn
import Derived.Laws.OwnMore
import Derived.IntWalk
import Derived.Lib.AppendZeros
import Derived.Maps.AppendAt
import Derived.Deep.AppendLies
import Derived.OwnWalk
import Derived.Lib.SlicesCompact
import Derived.Lib.OwnBridge
import Derived.OrdersIn
import Derived.TacticsIn
import Derived.Shelf.Sort.Plain
import Derived.Shelf.Slices.In.SortNone
import Derived.Shelf.Slices.CompactI
import Derived.Ground.Names2Prog
import Derived.Lib.SliceRun
import Derived.Laws.BitsAllLaws
import Derived.Shelf.RegionOpen
import Derived.Shelf.Abstract
import Derived.OwnWalkIn
import Derived.TacticsInMore
import Derived.LoopNIn
import Derived.LoopIn
import Derived.StillTail
import Derived.StillTactics
import Derived.Shelf.Spec.TrailingZeros
import Derived.Test.YtgjcjllhkkkioaaDoorRaaa
import Derived.Test.YtgjcjllhkkkioaaDoorRaab
import Derived.Test.YtgjcjllhkkkioaaDoorRaad
import Derived.Test.YtgjcjllhkkkioaaDoorRaaf
import Derived.Test.YtgjcjllhkkkioaaDoorIb
import Derived.Test.YtgjcjllhkkkioaaDoorKa
import Derived.Test.YtgjcjllhkkkioaaDoorRaav
import Derived.Test.YtgjcjllhkkkioaaDoorRabjxMeetOr
import Derived.Test.YtgjcjllhkkkioaaDoorRaai
namespace Go.Proofs.YtgjcjllhkkkioaaDoor
open Go.RowKit Go.Shelf

/-- The places, of the first j ones, at which f holds. -/
def plF (f : Nat → Bool) : Nat → Nat
  | 0 => 0
  | j + 1 => if f j then plF f j ||| 2 ^ j else plF f j

/-- How many runs of places f has. -/
def runF (f : Nat → Bool) : Nat → Nat
  | 0 => 0
  | j + 1 => if f j && (j == 0 || !f (j - 1)) then runF f j + 1 else runF f j

theorem plF_lt (f : Nat → Bool) : ∀ j, plF f j < 2 ^ j
  | 0 => by simp [plF]
  | j + 1 => by
    have h := plF_lt f j
    have h1 : plF f j < 2 ^ (j + 1) := by rw [Nat.pow_succ]; omega
    have h2 : (2 : Nat) ^ j < 2 ^ (j + 1) := by rw [Nat.pow_succ]; have := Nat.one_le_two_pow (n := j); omega
    unfold plF
    split
    · exact Nat.or_lt_two_pow h1 h2
    · exact h1

theorem plF_lt6 (f : Nat → Bool) {j : Nat} (hj : j ≤ 6) : plF f j < 64 := Nat.lt_of_lt_of_le (plF_lt f j) (Nat.pow_le_pow_right (n := 2) (by decide) hj)
theorem runF_le (f : Nat → Bool) : ∀ j, runF f j ≤ j
  | 0 => Nat.le_refl _
  | j + 1 => by
    have := runF_le f j
    unfold runF
    split <;> omega

/-- The least bit of a set. -/
def lowN (x : Nat) : Nat := (bits .and .i64 (x : Int) (-(x : Int))).toNat

def unbB (x : Nat) : Bool := decide (x &&& (x + lowN x) = 0)
set_option maxRecDepth 100000 in
theorem low_fin : ∀ x : Fin 64, bits BinOp.and IntKind.i64 (x.val : Int) (-(x.val : Int)) = ((lowN x.val : Nat) : Int) ∧ x.val + lowN x.val < 128 := by decide +kernel

theorem low_at (x : Nat) (hx : x < 64) : bits BinOp.and IntKind.i64 (x : Int) (-(x : Int)) = ((lowN x : Nat) : Int) ∧ x + lowN x < 128 := low_fin ⟨x, hx⟩
set_option maxRecDepth 100000 in
theorem and7_fin : ∀ x : Fin 64, ∀ y : Fin 128, bits BinOp.and IntKind.i64 (x.val : Int) (y.val : Int) = ((x.val &&& y.val : Nat) : Int) := by decide +kernel

theorem and7_at (x y : Nat) (hx : x < 64) (hy : y < 128) : bits BinOp.and IntKind.i64 (x : Int) (y : Int) = ((x &&& y : Nat) : Int) := and7_fin ⟨x, hx⟩ ⟨y, hy⟩
theorem unb_0 : unbB 0 = decide (0 ≤ 1) := by decide +kernel
/-- A set has no gap just if it has one run at most. -/
theorem unb_run (f : Nat → Bool) : ∀ j, j ≤ 6 → unbB (plF f j) = decide (runF f j ≤ 1)
  | 0, _ => unb_0
  | 1, _ => by simp only [plF, runF, Nat.zero_add, Nat.add_sub_cancel]; generalize f 0 = b0; revert b0; decide +kernel
  | 2, _ => by simp only [plF, runF, Nat.zero_add, Nat.add_sub_cancel]; generalize f 0 = b0; generalize f (0 + 1) = b1; revert b0 b1; decide +kernel
  | 3, _ => by simp only [plF, runF, Nat.zero_add, Nat.add_sub_cancel]; generalize f 0 = b0; generalize f 1 = b1; generalize f 2 = b2; revert b0 b1 b2; decide +kernel
  | 4, _ => by simp only [plF, runF, Nat.zero_add, Nat.add_sub_cancel]; generalize f 0 = b0; generalize f 1 = b1; generalize f 2 = b2; generalize f 3 = b3; revert b0 b1 b2 b3; decide +kernel
  | 5, _ => by simp only [plF, runF, Nat.zero_add, Nat.add_sub_cancel]; generalize f 0 = b0; generalize f 1 = b1; generalize f 2 = b2; generalize f 3 = b3; generalize f 4 = b4; revert b0 b1 b2 b3 b4; decide +kernel
  | 6, _ => by simp only [plF, runF, Nat.zero_add, Nat.add_sub_cancel]; generalize f 0 = b0; generalize f 1 = b1; generalize f 2 = b2; generalize f 3 = b3; generalize f 4 = b4; generalize f 5 = b5; revert b0 b1 b2 b3 b4 b5; decide +kernel
  | j + 7, h => by omega

/-- At which places of an order the members of a set are. -/
def atF (z : Nat) (o : List Int) (i : Nat) : Bool := z.testBit (o[i]?.getD 0).toNat

/-- No set of an order is broken. -/
def brkB (o : List Int) (z : Nat) : Bool := !unbB (plF (atF z o) o.length)

def brkC (zs : List Int) (o : List Int) : Bool := zs.any fun z => brkB o z.toNat
theorem meets7_any (x y : Nat) (hx : x < 64) (hy : y < 128) (w : World) :
    Calls Tryd.prog 84 #[.int .i64 (x : Int), .int .i64 (y : Int)] w fun e w' => e = .returned (.bool (!decide (x &&& y = 0))) ∧ w = w' := by
  have HA := Lib.hid (and7_at x y hx hy)
  have HE : Hid ((((x &&& y : Nat) : Int) != 0) = !decide (x &&& y = 0)) := Lib.hid (by
    by_cases h : x &&& y = 0
    · rw [h]; rfl
    · rw [decide_eq_false h, bne_iff_ne.2 (by omega)]; rfl)
  go_enter Tryd.func84, Tryd.ntmps84
  go_wp2
  go_ret
  exact ⟨by rw [← HE.out, ← HA.out]; rfl, rfl⟩

theorem unbroken_any (x : Nat) (hx : x < 64) (w : World) :
    Calls Tryd.prog 74 #[.int .i64 (x : Int)] w fun e w' => e = .returned (.bool (unbB x)) ∧ w = w' := by
  obtain ⟨h1, h2⟩ := low_at x hx
  have HM := Lib.hid (meets7_any x (x + lowN x) hx h2 w)
  obtain ⟨l, hl⟩ : ∃ l, l = lowN x := ⟨_, rfl⟩
  have HU : Hid (unbB x = decide (x &&& (x + l) = 0)) := Lib.hid (by rw [hl]; rfl)
  rw [← hl] at h1 h2 HM
  have hlI : (x : Int) + (l : Int) < 128 := by omega
  have hxI : (x : Int) < 64 := by omega
  have hx0 : (0 : Int) ≤ (x : Int) := by omega
  have hl0 : (0 : Int) ≤ (l : Int) := by omega
  have HC : Hid (((x + l : Nat) : Int) = (x : Int) + (l : Int)) := Lib.hid (by omega)
  clear hl
  go_enter Tryd.func74, Tryd.ntmps74
  go_wp2_with fail
  rw [← HC.out]
  refine HM.out.mono ?_
  rintro e w1 ⟨rfl, rfl⟩
  go_wp2
  go_ret
  exact ⟨by rw [HU.out]; simp, rfl⟩

set_option maxRecDepth 100000 in
set_option maxHeartbeats 2000000 in
theorem standing_any (z : Nat) (hz : z < 64) (a : Option Addr) (c : Nat) (o : List Int) (ho : ∀ x ∈ o, 0 ≤ x ∧ x < 6) (hol : o.length ≤ 6) (w : World) (ha : Ints w w.heap.size a o) :
    Calls Tryd.prog 73 #[.int .i64 (z : Int), .slice a o.length c] w fun e w' => e = .returned (.int .i64 ((plF (atF z o) o.length : Nat) : Int)) ∧ w = w' := by
  obtain ⟨N, hN⟩ : ∃ N, N = o.length := ⟨_, rfl⟩
  have HN := Lib.hid hN
  have HI := Lib.hid ha
  have HO := Lib.hid ho
  rw [← hN]
  rw [← hN] at hol
  clear hN ha ho
  go_enter Tryd.func73, Tryd.ntmps73
  go_wp2
  go_loop [5, 10] (fun x i => ∃ k : Nat, k ≤ N ∧ i = .int .i64 k ∧ x = .int .i64 ((plF (atF z o) k : Nat) : Int)) (fun _ i => N - (intOf i).toNat)
  case atStart => exact ⟨0, Nat.zero_le _, rfl, rfl⟩
  case round =>
    obtain ⟨j, hk, rfl, rfl⟩ := hrel
    by_cases hlt : j < N
    · have hki : (j : Int) < (N : Int) := by omega
      have hk0 : (0 : Int) ≤ (j : Int) := by omega
      obtain ⟨b1, o1, rfl, hb1, hc⟩ := HI.out.at_ (k := j) (by rw [← HN.out]; exact hlt)
      have hvm := HO.out _ (getD_mem (zs := o) (i := j) (by rw [← HN.out]; exact hlt))
      obtain ⟨v, hv⟩ : ∃ v : Nat, o[j]?.getD 0 = (v : Int) := ⟨(o[j]?.getD 0).toNat, by have := hvm.1; omega⟩
      have hv6 : v < 6 := by have := hvm.2; omega
      have HAT : Hid (atF z o j = z.testBit v) := Lib.hid (by unfold atF; rw [hv, Int.toNat_natCast])
      rw [hv] at hc
      have HPL : Hid (plF (atF z o) (j + 1) = if z.testBit v then plF (atF z o) j ||| 2 ^ j else plF (atF z o) j) := Lib.hid (by rw [← HAT.out]; rfl)
      have hp := plF_lt6 (atF z o) (j := j) (by omega)
      obtain ⟨P, hP⟩ : ∃ P, P = plF (atF z o) j := ⟨_, rfl⟩
      rw [← hP] at hp HPL
      have HP : Hid (P = plF (atF z o) j) := Lib.hid hP
      rw [← hP]
      clear hP hvm hv
      cases hb : z.testBit v
      · have HBT := Lib.hid hb
        have HR : Hid (plF (atF z o) (j + 1) = P) := Lib.hid (by rw [HPL.out, hb]; rfl)
        clear hb
        go_wp2_with fail
        refine (has_any z v hz hv6 _).mono ?_
        rintro e w3 ⟨rfl, rfl⟩
        rw [HBT.out]
        go_wp2
        go_round
        case rel => exact ⟨j + 1, by omega, by go_num, by rw [HR.out]⟩
        case measure => simp [intOf]; omega
      · have HBT := Lib.hid hb
        have HR : Hid (plF (atF z o) (j + 1) = P ||| 2 ^ j) := Lib.hid (by rw [HPL.out, hb]; rfl)
        clear hb
        go_wp2_with fail
        refine (has_any z v hz hv6 _).mono ?_
        rintro e w3 ⟨rfl, rfl⟩
        rw [HBT.out]
        go_wp2_with fail
        refine (with_any P j (by omega) (by omega) _).mono ?_
        rintro e w4 ⟨rfl, rfl⟩
        go_wp2
        go_round
        case rel => exact ⟨j + 1, by omega, by go_num, by rw [HR.out]⟩
        case measure => simp [intOf]; omega
    · obtain rfl : j = N := by omega
      go_wp2
      go_ret
      exact ⟨rfl, rfl⟩

theorem even1_any (z : Nat) (hz : z < 64) (oa : Option Addr) (oc : Nat) (o : List Int) (ho : ∀ x ∈ o, 0 ≤ x ∧ x < 6) (hol : o.length ≤ 6) (Bs : Nat) (w : World) (hio : Ints w w.heap.size oa o) (hb : Boxed w Bs 22 (.slice oa o.length oc)) :
    Calls Tryd.prog 72 #[.int .i64 (z : Int), .pointer (some ⟨Bs, 0, none⟩)] w fun e w' => e = .returned (.bool (brkB o z)) ∧ w = w' := by
  have x0 := (blk_cell hb 0).trans (cell1_0 _)
  have H := Lib.hid (standing_any z hz oa oc o ho hol w hio)
  have H2 := Lib.hid (unbroken_any (plF (atF z o) o.length) (plF_lt6 _ hol) w)
  have HB : Hid (brkB o z = !unbB (plF (atF z o) o.length)) := Lib.hid rfl
  obtain ⟨U, hU⟩ : ∃ U, U = unbB (plF (atF z o) o.length) := ⟨_, rfl⟩
  rw [← hU] at HB H2
  obtain ⟨P, hP⟩ : ∃ P, P = plF (atF z o) o.length := ⟨_, rfl⟩
  rw [← hP] at H H2
  clear hb hio ho hol hU hP
  go_enter Tryd.func72, Tryd.ntmps72
  go_wp2_with fail
  refine H.out.mono ?_
  rintro e w1 ⟨rfl, rfl⟩
  go_wp2_with fail
  refine H2.out.mono ?_
  rintro e w1 ⟨rfl, rfl⟩
  go_wp2
  go_ret
  exact ⟨by rw [HB.out]; rfl, rfl⟩

theorem brk_yes {o : List Int} {zs : List Int} {k : Nat} (hk : k < zs.length) (h : brkB o (zs[k]?.getD 0).toNat = true) : brkC zs o = true := by
  unfold brkC
  rw [List.any_eq_true]
  exact ⟨_, getD_mem hk, h⟩

theorem brk_no {o : List Int} {zs : List Int} (h : ∀ j, j < zs.length → brkB o (zs[j]?.getD 0).toNat = false) : brkC zs o = false := by
  unfold brkC
  rw [List.any_eq_false]
  intro z hz
  obtain ⟨j, hj, rfl⟩ := List.mem_iff_getElem.1 hz
  have := h j hj
  rw [List.getElem?_eq_getElem hj, Option.getD_some] at this
  rw [this]
  decide

set_option maxRecDepth 100000 in
set_option maxHeartbeats 2000000 in
theorem indexEven_any (k : Nat) (hk8 : k ≤ 6) (b : Option Addr) (c : Nat) (zs : List Int) (oa : Option Addr) (oc : Nat) (o : List Int) (ho : ∀ x ∈ o, 0 ≤ x ∧ x < 6) (hol : o.length ≤ 6) (hz : Sets k zs) (hx8 : zs.length ≤ 1048576) (Bs : Nat) (w : World) (hb : Ints w w.heap.size b zs) (hio : Ints w w.heap.size oa o) (hx : Boxed w Bs 22 (.slice oa o.length oc)) :
    Calls Tryd.prog 83 #[.slice b zs.length c, .func (.func 72) #[] #[.pointer (some ⟨Bs, 0, none⟩)]] w fun e w' =>
      ∃ r : Int, e = .returned (.int .i64 r) ∧ decide (0 ≤ r) = brkC zs o ∧ w = w' := by
  obtain ⟨N, hN⟩ : ∃ N, N = zs.length := ⟨_, rfl⟩
  have HN : Hid (N = zs.length) := Lib.hid hN
  have HI := Lib.hid hb
  have HW : Hid (∀ (z : Nat), z < 64 → Calls Tryd.prog 72 #[.int .i64 (z : Int), .pointer (some ⟨Bs, 0, none⟩)] w fun e w' => e = .returned (.bool (brkB o z)) ∧ w = w') := Lib.hid fun z hzz => even1_any z hzz oa oc o ho hol Bs w hio hx
  have HZ := Lib.hid hz
  rw [← hN]
  rw [← hN] at hx8
  clear hN hb hx hz hio ho hol
  go_enter Tryd.func83, Tryd.ntmps83
  go_wp2
  go_loop [5, 8] (fun _ i => ∃ k : Nat, k ≤ N ∧ i = .int .i64 k ∧ Hid (∀ j, j < k → brkB o (zs[j]?.getD 0).toNat = false)) (fun _ i => N - (intOf i).toNat)
  case atStart => exact ⟨0, Nat.zero_le _, rfl, Lib.hid (fun j hj => by omega)⟩
  case round =>
    obtain ⟨j, hk, rfl, HE⟩ := hrel
    by_cases hlt : j < N
    · have hki : (j : Int) < (N : Int) := by omega
      have hk0 : (0 : Int) ≤ (j : Int) := by omega
      obtain ⟨b1, o1, rfl, hb1, hc⟩ := HI.out.at_ (k := j) (by rw [← HN.out]; exact hlt)
      have hzm := HZ.out _ (getD_mem (zs := zs) (i := j) (by rw [← HN.out]; exact hlt))
      obtain ⟨z, hzz⟩ : ∃ z : Nat, zs[j]?.getD 0 = (z : Int) := ⟨(zs[j]?.getD 0).toNat, by have := hzm.1; omega⟩
      have hzn : z < 64 := by
        have := p64 hk8 hzm.2
        rw [hzz, Int.toNat_natCast] at this
        exact this
      have HC := Lib.hid (HW.out z hzn)
      have HZZ : Hid ((zs[j]?.getD 0).toNat = z) := Lib.hid (by rw [hzz, Int.toNat_natCast])
      rw [hzz] at hc
      clear hzz hzm
      cases hf : brkB o z
      · have HF := Lib.hid hf
        clear hf
        go_wp2_with fail
        refine HC.out.mono ?_
        rintro e w3 ⟨rfl, rfl⟩
        rw [HF.out]
        have HR : Hid (∀ i, i < j + 1 → brkB o (zs[i]?.getD 0).toNat = false) := Lib.hid fun i hi => by
          rcases Nat.lt_succ_iff_lt_or_eq.1 hi with h | rfl
          · exact HE.out i h
          · rw [HZZ.out]; exact HF.out
        go_wp2
        go_round
        case rel => exact ⟨j + 1, by omega, by go_num, HR⟩
        case measure => simp [intOf]; omega
      · have HF := Lib.hid hf
        clear hf
        go_wp2_with fail
        refine HC.out.mono ?_
        rintro e w3 ⟨rfl, rfl⟩
        rw [HF.out]
        go_wp2
        go_ret
        exact ⟨_, rfl, by rw [brk_yes (k := j) (by rw [← HN.out]; exact hlt) (by rw [HZZ.out]; exact HF.out)]; simp, rfl⟩
    · obtain rfl : j = N := by omega
      go_wp2
      go_ret
      exact ⟨_, rfl, by rw [brk_no (by rw [← HN.out]; exact HE.out)]; decide, rfl⟩

set_option maxRecDepth 100000 in
set_option maxHeartbeats 1600000 in
theorem containsEven_any (k : Nat) (hk8 : k ≤ 6) (b : Option Addr) (c : Nat) (zs : List Int) (oa : Option Addr) (oc : Nat) (o : List Int) (ho : ∀ x ∈ o, 0 ≤ x ∧ x < 6) (hol : o.length ≤ 6) (hz : Sets k zs) (hx8 : zs.length ≤ 1048576) (Bs : Nat) (w : World) (hb : Ints w w.heap.size b zs) (hio : Ints w w.heap.size oa o) (hx : Boxed w Bs 22 (.slice oa o.length oc)) :
    Calls Tryd.prog 71 #[.slice b zs.length c, .func (.func 72) #[] #[.pointer (some ⟨Bs, 0, none⟩)]] w fun e w' => e = .returned (.bool (brkC zs o)) ∧ w = w' := by
  have H := Lib.hid (indexEven_any k hk8 b c zs oa oc o ho hol hz hx8 Bs w hb hio hx)
  clear hb hx hz hio ho hol
  go_enter Tryd.func71, Tryd.ntmps71
  go_wp2_with fail
  refine H.out.mono ?_
  rintro e w1 ⟨r, rfl, hr, rfl⟩
  have HR := Lib.hid hr
  clear hr
  by_cases h : 0 ≤ r
  · go_wp2
    go_ret
    exact ⟨by rw [← HR.out, decide_eq_true h]; rfl, rfl⟩
  · have h' : r < 0 := by omega
    go_wp2
    go_ret
    exact ⟨by rw [← HR.out]; rfl, rfl⟩

set_option maxRecDepth 100000 in
theorem evenIn_any (k : Nat) (hk8 : k ≤ 6) (m : Int) (a : Option Addr) (c : Nat) (zs : List Int) (oa : Option Addr) (oc : Nat) (o : List Int) (ho : ∀ x ∈ o, 0 ≤ x ∧ x < 6) (hol : o.length ≤ 6) (w : World) (ha : Ints w w.heap.size a zs) (hio : Ints w w.heap.size oa o) (hx : zs.length ≤ 1048576) (hz : Sets k zs) :
    Calls Tryd.prog 51 #[.agg #[.int .i64 m, .slice a zs.length c], .slice oa o.length oc] w fun e w' => e = .returned (.bool (!brkC zs o)) ∧ Below w.heap.size w w' := by
  have HB := Lib.hid (below2 w (.cells #[.int .i64 m, .slice a zs.length c] 26) (.cells #[.slice oa o.length oc] 22))
  have HC := Lib.hid (containsEven_any k hk8 a c zs oa oc o ho hol hz hx (w.heap.size + 1) ((w.alloc (.cells #[.int .i64 m, .slice a zs.length c] 26)).alloc (.cells #[.slice oa o.length oc] 22)) ((ha.below HB.out).mono (by simp; omega)) ((hio.below HB.out).mono (by simp; omega)) (alloc2_1 w _ _))
  clear ha hz hio ho
  go_enter Tryd.func51, Tryd.ntmps51
  go_wp2_with fail
  refine HC.out.mono ?_
  rintro e w1 ⟨rfl, rfl⟩
  go_wp2
  go_ret
  exact ⟨rfl, HB.out⟩

end Go.Proofs.YtgjcjllhkkkioaaDoor
