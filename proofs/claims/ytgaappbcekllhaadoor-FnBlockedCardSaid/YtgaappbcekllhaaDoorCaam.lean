/- It is proved what SpeakerPairs of the program and of the reference model returns; conditions: those of each statement. -/
import Derived.RowKit
import Derived.Laws.CopyRow
import Derived.Lib.SlBuf
import Derived.Deep.QuietTactic
import Derived.RangeFuncNested
import Derived.RangeFuncBound
import Derived.RangeFuncCalls
import Derived.RangeFuncLeaves
import Derived.RangeFuncBox
import Derived.RangeFuncWrites
import Derived.StillTailTactics
import Derived.Maps.OwnIn
import Derived.Maps.Ext
import Derived.DeepKeys4
import Derived.MapKept
import Derived.Test.YtgaappbcekllhaaDoorRows
import Derived.WalkKit
import Derived.WalkSpells
import Derived.ProofKit
import Derived.OpenShut
import Derived.ShutString
import Derived.ChangeOld
import Derived.Below
import Derived.Deep.RegionHeld3
import Derived.BigQuiet
import Derived.Lib.Hide
import Derived.Lib.SmallJoins
import Derived.Outline
import Derived.Laws.MakeOwn
import Derived.Laws.OwnMore
import Derived.IntWalk
import Derived.Maps.AppendAt
import Derived.Lib.AppendZeros
import Derived.Deep.AppendLies
import Derived.OwnWalk
import Derived.Lib.SlicesCompact
import Derived.Lib.OwnBridge
import Derived.OrdersIn
import Derived.TacticsIn
import Derived.Shelf.Sort.Plain
import Derived.Shelf.Slices.In.SortNone
import Derived.Shelf.Slices.CompactI
import Derived.Ground.Names2Prog
import Derived.Lib.SliceRun
import Derived.Shelf.RegionOpen
import Derived.Shelf.Abstract
import Derived.OwnWalkIn
import Derived.TacticsInMore
import Derived.LoopNIn
import Derived.LoopIn
import Derived.StillTail
import Derived.StillTactics
import Derived.Shelf.Spec.TrailingZeros
import Derived.Test.YtgaappbcekllhaaDoorCaad
import Derived.Test.YtgaappbcekllhaaDoorCaaa
import Derived.Test.YtgaappbcekllhaaDoorCaab
import Derived.Test.YtgaappbcekllhaaDoorCaac
import Derived.Test.YtgaappbcekllhaaDoorCaag
import Derived.Test.YtgaappbcekllhaaDoorCaah
import Derived.Test.YtgaappbcekllhaaDoorMa
import Derived.Test.YtgaappbcekllhaaDoorCaal
import Derived.Test.YtgaappbcekllhaaDoorCaaj
import Derived.Test.YtgaappbcekllhaaDoorCaae
namespace Go.Proofs.YtgaappbcekllhaaDoor
open Go.RowKit

theorem matM_le (zs : List Int) (L : Nat) (hL : L < 64) : matM zs L ≤ zs.length := by
  have h := (ore zs L hL).1 0 (Nat.two_pow_pos _)
  have e0 : overK zs L 0 = 0 := by
    have h1 : cntK zs.length 0 = 0 := by unfold cntK; rw [memK_zero]; rfl
    have h2 : togK zs 0 = 0 := by unfold togK; rw [memK_zero]; rfl
    unfold overK
    rw [h1, h2, Nat.zero_and]
    unfold cntK
    rw [memK_zero]
    rfl
  omega

theorem memK_succ (v s : Nat) : memK (v + 1) s = memK v s ++ if s.testBit v then [v] else [] := by
  unfold memK
  rw [List.range_succ, List.filter_append]
  cases h : s.testBit v <;> simp [h]

theorem memK_end {v s : Nat} (hv : v ≤ 6) (hs : s < 2 ^ v) : memK 6 s = memK v s := by
  obtain ⟨d, hd⟩ : ∃ d, 6 = v + d := ⟨6 - v, by omega⟩
  unfold memK
  rw [show List.range 6 = List.range (v + d) from by rw [← hd], List.range_add, List.filter_append]
  have : ((List.range d).map (v + ·)).filter (fun i => s.testBit i) = [] := by
    rw [List.filter_eq_nil_iff]
    intro i hi
    obtain ⟨j, -, rfl⟩ := List.mem_map.1 hi
    rw [Nat.testBit_lt_two_pow (Nat.lt_of_lt_of_le hs (Nat.pow_le_pow_right (by decide) (by omega)))]
    simp
  rw [this, List.append_nil]

theorem shr_nat (y v : Nat) : (y : Int) / 2 ^ v = ((y / 2 ^ v : Nat) : Int) := by
  rw [Int.natCast_ediv]; norm_cast

set_option maxRecDepth 100000 in
set_option maxHeartbeats 4000000 in
theorem l5Pairs_any (a : Option Addr) (c : Nat) (zs : List Int) (w : World) (ha : Ints w w.heap.size a zs) (hx : zs.length ≤ 8) (hz : ∀ z ∈ zs, 0 ≤ z ∧ z.toNat < 64) :
    ∀ (rs : List Int) (p : Nat), rs = zs.drop p → p ≤ zs.length → ∀ (u : Nat), u < 64 →
    Calls Tryd.prog 23 #[.slice a zs.length c, .int .i64 (p : Int), .int .i64 (u : Int)] w fun e w' => e = .returned (.int .i64 ((matM rs u : Nat) : Int)) ∧ w = w'
  | [], p, hrs, hp, u, hu => by
    have hpn : p = zs.length := by
      have := congrArg List.length hrs
      rw [List.length_drop] at this
      simp at this; omega
    obtain ⟨n, hn⟩ : ∃ n, n = zs.length := ⟨_, rfl⟩
    rw [← hn] at hpn ⊢
    have hpI : ((p : Int) == (n : Int)) = true := by rw [beq_iff_eq]; omega
    clear hpn hn hrs
    go_enter Tryd.func23, Tryd.ntmps23
    go_wp2
    go_ret
    exact ⟨rfl, rfl⟩
  | z :: rs, p, hrs, hp, u, hu => by
    have hlt : p < zs.length := by
      have := congrArg List.length hrs
      rw [List.length_drop, List.length_cons] at this
      omega
    have hrl : rs.length ≤ 8 := by
      have := congrArg List.length hrs
      rw [List.length_drop, List.length_cons] at this
      omega
    have hzp : zs[p]?.getD 0 = z := by
      have := congrArg (fun l : List Int => l[0]?.getD 0) hrs
      simp at this
      simp [this]
    have hrs2 : rs = zs.drop (p + 1) := by
      have := congrArg List.tail hrs
      simpa using this
    have hin : z ∈ zs := by rw [← hzp, List.getElem?_eq_getElem hlt]; exact List.getElem_mem _
    obtain ⟨hz0, hz6⟩ := hz z hin
    obtain ⟨y, rfl⟩ : ∃ y : Nat, z = (y : Int) := ⟨z.toNat, by omega⟩
    rw [Int.toNat_natCast] at hz6
    have IH := Lib.hid (fun u' (hu' : u' < 64) => l5Pairs_any a c zs w ha hx hz rs (p + 1) hrs2 (by omega) u' hu')
    have HM : Hid (matM ((y : Int) :: rs) u = (memK 6 (y &&& u)).foldl (fun b v => max b (1 + matM rs (woP u v))) (matM rs u)) := Lib.hid (by rw [matM, Int.toNat_natCast])
    have HLE : Hid (∀ u', u' < 64 → matM rs u' ≤ 8) := Lib.hid (fun u' h => Nat.le_trans (matM_le rs u' h) hrl)
    have HAND := and6_at y u hz6 hu
    have ht64 : y &&& u < 64 := Nat.lt_of_le_of_lt Nat.and_le_left hz6
    have hty : y &&& u ≤ y := Nat.and_le_left
    obtain ⟨t, ht⟩ : ∃ t, t = y &&& u := ⟨_, rfl⟩
    rw [← ht] at HAND HM ht64 hty
    obtain ⟨b1, o1, rfl, hb1, hc1⟩ := ha.at_ hlt
    rw [hzp] at hc1
    obtain ⟨n, hn⟩ : ∃ n, n = zs.length := ⟨_, rfl⟩
    have HIH : Hid (∀ u' : Nat, u' < 64 → Calls Tryd.prog 23 #[.slice (some ⟨b1, o1, none⟩) n c, .int .i64 ((p : Int) + 1), .int .i64 (u' : Int)] w fun e w' => e = .returned (.int .i64 ((matM rs u' : Nat) : Int)) ∧ w = w') := Lib.hid (fun u' h => by have := IH.out u' h; rw [hn]; exact this)
    rw [← hn] at hlt hx ⊢
    have hpI : ((p : Int) == (n : Int)) = false := by rw [beq_eq_false_iff_ne]; omega
    have hpI2 : (p : Int) < (n : Int) := by omega
    have hn8 : (n : Int) ≤ 8 := by omega
    have I0 := Lib.hid (HIH.out u hu)
    obtain ⟨B0, hB0⟩ : ∃ B0, B0 = matM rs u := ⟨_, rfl⟩
    have hB08 : B0 ≤ 8 := by rw [hB0]; exact HLE.out u hu
    rw [← hB0] at I0 HM
    clear hrs hrs2 hin hzp hz ha hz0 ht hn IH hB0
    go_enter Tryd.func23, Tryd.ntmps23
    go_wp2_with fail
    refine I0.out.mono ?_
    rintro e w' ⟨rfl, rfl⟩
    go_wp2
    go_loop [7, 8] (fun b v => ∃ q B : Nat, q ≤ 6 ∧ B ≤ 9 ∧ v = .int .i64 (q : Int) ∧ b = .int .i64 (B : Int) ∧ B = (memK q t).foldl (fun b v => max b (1 + matM rs (woP u v))) B0) (fun _ v => 7 - (intOf v).toNat)
    case atStart => exact ⟨0, B0, by omega, by omega, rfl, rfl, rfl⟩
    case round =>
      obtain ⟨q, B, hq, hB9, rfl, rfl, hB⟩ := hrel
      have HB := Lib.hid hB
      have hq0 : (0 : Int) ≤ (q : Int) := by omega
      have hq64 : (q : Int) < 64 := by omega
      have hsh := shr_nat y q
      clear hB
      by_cases hy : 2 ^ q ≤ y
      · have hQ : 0 < y / 2 ^ q := Nat.div_pos hy (Nat.two_pow_pos _)
        have hq6 : q < 6 := by
          refine Classical.byContradiction fun h => ?_
          have : 2 ^ 6 ≤ 2 ^ q := Nat.pow_le_pow_right (by decide) (by omega)
          omega
        obtain ⟨Q, hQQ⟩ : ∃ Q, Q = y / 2 ^ q := ⟨_, rfl⟩
        rw [← hQQ] at hsh hQ
        have hQI : (0 : Int) < (Q : Int) := by omega
        have hbv := bit_val (S := t) (v := q) ht64 hq6
        have hms := memK_succ q t
        have hp2 := p2_small q (by omega)
        have hpw : IntKind.i64.wrap ((2 : Int) ^ q) = (2 : Int) ^ q := by rw [IntKind.wrap_i64]; omega
        have han := andN_at hu hq6
        have hwl := woP_lt (v := q) hu
        have HI2 := Lib.hid (HIH.out (woP u q) hwl)
        have HL2 := HLE.out (woP u q) hwl
        obtain ⟨x, hx2⟩ : ∃ x, x = woP u q := ⟨_, rfl⟩
        obtain ⟨P, hP⟩ : ∃ P, P = matM rs (woP u q) := ⟨_, rfl⟩
        have HP := Lib.hid hP
        rw [← hP] at HL2 HI2
        rw [← hx2] at han HI2
        clear hQQ hy hQ hx2 hP
        cases htb : t.testBit q
        · rw [htb] at hbv hms
          simp only [Bool.false_eq_true, if_false, List.append_nil] at hbv hms
          have HE : Hid (B = (memK (q + 1) t).foldl (fun b v => max b (1 + matM rs (woP u v))) B0) := Lib.hid (by rw [hms]; exact HB.out)
          clear htb hms
          go_wp2
          go_round
          case rel => exact ⟨q + 1, B, by omega, hB9, by go_num, rfl, HE.out⟩
          case measure => simp [intOf]; omega
        · rw [htb] at hbv hms
          simp only [if_true] at hbv hms
          have HE : Hid (max B (1 + P) = (memK (q + 1) t).foldl (fun b v => max b (1 + matM rs (woP u v))) B0) := Lib.hid (by rw [hms, List.foldl_append, ← HB.out, HP.out]; rfl)
          have hPI : (1 : Int) + (P : Int) ≤ 100 := by omega
          have hP0 : (0 : Int) ≤ (P : Int) := by omega
          clear htb hms
          go_wp2_with fail
          refine HI2.out.mono ?_
          rintro e w' ⟨rfl, rfl⟩
          go_wp2
          go_round
          case rel => exact ⟨q + 1, max B (1 + P), by omega, by omega, by go_num, by go_num, HE.out⟩
          case measure => simp [intOf]; omega
      · have hQ : y / 2 ^ q = 0 := Nat.div_eq_of_lt (by omega)
        rw [hQ] at hsh
        have HE : Hid (matM ((y : Int) :: rs) u = B) := Lib.hid (by rw [HM.out, memK_end hq (by omega)]; exact HB.out.symm)
        have hsh0 : (y : Int) / 2 ^ q = 0 := hsh
        clear hQ hsh hy
        go_wp2
        go_ret
        exact ⟨by rw [HE.out]; rfl, rfl⟩

/-- The most clubs that get a member. -/
def prsZ (m : Int) (zs : List Int) : Int := if famIn m zs then ((matM zs (2 ^ m.toNat - 1) : Nat) : Int) else 0

set_option maxRecDepth 100000 in
set_option maxHeartbeats 2000000 in
theorem implSpeakerPairs_any (m : Int) (a : Option Addr) (c : Nat) (zs : List Int) (w : World) (ha : Ints w w.heap.size a zs) (hT : Tab w) (hx : zs.length ≤ 1048576) :
    Calls Tryd.prog 8 #[.agg #[.int .i64 m, .slice a zs.length c]] w (RetIB w (prsZ m zs) (famIn m zs)) := by
  have HB0 := Lib.hid (below1 w (.cells #[.int .i64 m, .slice a zs.length c] 25))
  have HA := Lib.hid (ha.below HB0.out)
  clear ha
  unfold prsZ
  cases hf : famIn m zs
  · have HF := Lib.hid hf
    clear hf
    go_enter Tryd.func8, Tryd.ntmps8
    go_wp2_with fail
    refine (implFamilyIn_any _ _ _ zs _ (HA.out.mono (by simp)) hx).mono ?_
    rintro e w1 ⟨rfl, hb⟩
    rw [HF.out]
    have HB := Lib.hid (HB0.out.trans (hb.mono (by simp)))
    clear hb
    go_wp2
    go_ret2
    exact ⟨rfl, HB.out⟩
  · have HF := Lib.hid hf
    obtain ⟨k, rfl, hk1, hk6, hset, hl8⟩ := fam_nat2 hf
    clear hf
    go_enter Tryd.func8, Tryd.ntmps8
    go_wp2_with fail
    refine (implFamilyIn_any _ _ _ zs _ (HA.out.mono (by simp)) hx).mono ?_
    rintro e w1 ⟨rfl, hb⟩
    rw [HF.out]
    have b0 : w1.heap[w.heap.size]? = some (.cells #[.int .i64 (k : Int), .slice a zs.length c] 25 (0, 0)) := (hb.block _ (by simp)).trans (alloc_new w _)
    have x0 := (blk_cell b0 0).trans (cell2_0 _ _)
    have x1 := (blk_cell b0 1).trans (cell2_1 _ _)
    have z1 : w.heap.size < w1.heap.size := lt_of_some b0
    have HB := Lib.hid (HB0.out.trans (hb.mono (by simp)))
    have HC := Lib.hid (pairs_any k hk6 a c zs w1 ((HA.out.below (hb.mono (by simp))).mono (by omega)) hl8 hset (hT.below HB.out hT.lt))
    clear hb b0
    go_wp2_with fail
    refine HC.out.mono ?_
    rintro e w2 ⟨rfl, hb2⟩
    have HR := Lib.hid (HB.out.trans (hb2.mono (by omega)))
    clear hb2
    go_wp2
    go_ret2
    exact ⟨by simp, HR.out⟩

end Go.Proofs.YtgaappbcekllhaaDoor

/- It is proved what pairsWithout returns; conditions: those of each statement. -/
namespace Go.Proofs.YtgaappbcekllhaaDoor
open Go.RowKit Go.Shelf

attribute [local go_sem] Oper.semAt_some

theorem woP_comm (L u v : Nat) : woP (woP L u) v = woP (woP L v) u := by
  unfold woP
  rw [Nat.and_assoc, Nat.and_assoc, Nat.and_comm (63 - 2 ^ u)]

theorem matM_cut (v : Nat) : ∀ (zs : List Int) (L : Nat), matM (cutL v zs) L = matM zs (woP L v)
  | [], _ => rfl
  | z :: zs, L => by
    have h1 : (((woP z.toNat v : Nat) : Int)).toNat &&& L = z.toNat &&& woP L v := by
      rw [Int.toNat_natCast]
      unfold woP
      rw [Nat.and_assoc, Nat.and_comm (63 - 2 ^ v) L]
    have h2 : (fun b u => max b (1 + matM (cutL v zs) (woP L u))) = fun b u => max b (1 + matM zs (woP (woP L v) u)) := by
      funext b u
      rw [matM_cut v zs, woP_comm]
    rw [show cutL v (z :: zs) = ((woP z.toNat v : Nat) : Int) :: cutL v zs from rfl, matM, matM, h1, h2, matM_cut v zs]

end Go.Proofs.YtgaappbcekllhaaDoor
