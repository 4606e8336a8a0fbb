/- It is proved that the call of the law FnForestCount returns true; conditions: those of each statement. -/
import Derived.StillTailTactics
import Derived.RowKit
import Derived.Laws.CopyRow
import Derived.Lib.SlBuf
import Derived.Deep.QuietTactic
import Derived.RangeFuncNested
import Derived.RangeFuncBound
import Derived.RangeFuncCalls
import Derived.RangeFuncLeaves
import Derived.RangeFuncBox
import Derived.RangeFuncWrites
import Derived.Maps.OwnIn
import Derived.Maps.Ext
import Derived.DeepKeys4
import Derived.MapKept
import Derived.Test.YtphddemilibooaaDoorRows
import Derived.WalkKit
import Derived.WalkSpells
import Derived.ProofKit
import Derived.OpenShut
import Derived.ShutString
import Derived.ChangeOld
import Derived.Below
import Derived.Deep.RegionHeld3
import Derived.BigQuiet
import Derived.Lib.Hide
import Derived.Lib.SmallJoins
import Derived.Outline
import Derived.Laws.MakeOwn
import Derived.Laws.OwnMore
import Derived.IntWalk
import Derived.Deep.RegionLaw
import Derived.Deep.AppendLies
import Derived.Lib.AppendZeros
import Derived.Maps.AppendAt
import Derived.OwnWalk
import Derived.Lib.SlicesCompact
import Derived.Lib.OwnBridge
import Derived.OrdersIn
import Derived.TacticsIn
import Derived.Shelf.Sort.Plain
import Derived.Shelf.Slices.In.SortNone
import Derived.Shelf.Slices.CompactI
import Derived.Ground.Names2Prog
import Derived.Lib.SliceRun
import Derived.Shelf.Abstract
import Derived.Shelf.RegionOpen
import Derived.OwnWalkIn
import Derived.TacticsInMore
import Derived.LoopNIn
import Derived.LoopIn
import Derived.StillTail
import Derived.StillTactics
import Derived.Shelf.Spec.TrailingZeros
import Derived.Deep.LoopGhost
import Derived.Test.YtphddemilibooaaDoorRaaa
import Derived.Test.YtphddemilibooaaDoorRaac
import Derived.Test.YtphddemilibooaaDoorRaab
import Derived.Test.YtphddemilibooaaDoorDb
import Derived.Test.YtphddemilibooaaDoorRaar
import Derived.Test.YtphddemilibooaaDoorRaad
import Derived.Test.YtphddemilibooaaDoorRaas
import Derived.Test.YtphddemilibooaaDoorRaal
import Derived.Test.YtphddemilibooaaDoorRaat
import Derived.Test.YtphddemilibooaaDoorRaaz
import Derived.Test.YtphddemilibooaaDoorRabd
import Derived.Test.YtphddemilibooaaDoorPc
import Derived.Test.YtphddemilibooaaDoorPd
import Derived.Test.YtphddemilibooaaDoorPg
import Derived.Test.YtphddemilibooaaDoorRaaj
import Derived.Test.YtphddemilibooaaDoorYm
import Derived.Test.YtphddemilibooaaDoorYs
import Derived.Test.YtphddemilibooaaDoorYt
import Derived.Test.YtphddemilibooaaDoorZc
namespace Go.Proofs.YtphddemilibooaaDoor
open Go.RowKit

set_option maxRecDepth 100000 in
set_option maxHeartbeats 400000 in
theorem totalW_any (a : Option Addr) (c : Nat) (zs : List Int) (w : World) (ha : Ints w w.heap.size a zs) (hx : zs.length ≤ 1000) (hz : ∀ z ∈ zs, 0 ≤ z ∧ z ≤ 1000) :
    Calls Tryd.prog 16 #[.slice a zs.length c] w fun e w' => e = .returned (.int .i64 zs.sum) ∧ w = w' := by
  obtain ⟨n, hn⟩ : ∃ n, n = zs.length := ⟨_, rfl⟩
  have HN := Lib.hid hn
  rw [← hn] at hx ⊢
  have HZ := Lib.hid hz
  clear hn hz
  go_enter Tryd.func16, Tryd.ntmps16
  go_wp2
  go_loop [3, 4] (fun s i => ∃ (k : Nat) (t : Int), k ≤ n ∧ i = .int .i64 (k : Int) ∧ s = .int .i64 t ∧ t = (zs.take k).sum ∧ 0 ≤ t ∧ t ≤ 1000 * (k : Int)) (fun _ i => n - (intOf i).toNat)
  case atStart => exact ⟨0, 0, Nat.zero_le _, rfl, rfl, by simp, by omega, by omega⟩
  case round =>
    obtain ⟨k, t, hk, rfl, rfl, ht, h0, h1⟩ := hrel
    have HT := Lib.hid ht
    clear ht
    by_cases hlt : k < n
    · obtain ⟨b, off, rfl, hb, hc⟩ := ha.at_ (k := k) (by rw [← HN.out]; exact hlt)
      have hkz : k < zs.length := by rw [← HN.out]; exact hlt
      have hzz := HZ.out zs[k] (List.getElem_mem hkz)
      obtain ⟨z, hz⟩ : ∃ z, z = zs[k]?.getD 0 := ⟨_, rfl⟩
      have ez : zs[k] = z := by rw [hz]; simp [hkz]
      rw [← hz] at hc
      rw [ez] at hzz
      obtain ⟨z0, z1⟩ := hzz
      have HS : Hid ((zs.take (k + 1)).sum = t + z) := Lib.hid (by rw [List.take_succ_eq_append_getElem hkz, List.sum_append, ← HT.out, ez]; simp)
      clear hz ez
      go_wp2
      go_round
      case rel => exact ⟨k + 1, t + z, by omega, by go_num, rfl, HS.out.symm, by omega, by omega⟩
      case measure => simp [intOf]; omega
    · have HS : Hid (t = zs.sum) := Lib.hid (by rw [HT.out, List.take_of_length_le (by have := HN.out; omega)])
      go_wp2
      go_ret
      exact ⟨ret_int HS.out, rfl⟩

set_option maxRecDepth 100000 in
theorem pop_fin : ∀ z : Fin 64, pop (z.val : Int) = ((memK 8 z.val).length : Int) := by decide +kernel

set_option maxRecDepth 100000 in
theorem pop_zero : ∀ z : Fin 64, (pop (z.val : Int) == 0) = decide (z.val = 0) := by decide +kernel

def zeroN (ys : List Int) : Nat := ys.countP fun y => y == 0
theorem zero_take {ys : List Int} {i : Nat} (h : i < ys.length) : zeroN (ys.take (i + 1)) = zeroN (ys.take i) + if (ys[i]?.getD 0 == 0) = true then 1 else 0 := by
  unfold zeroN
  rw [List.take_succ_eq_append_getElem h, List.countP_append, List.countP_singleton, List.getElem?_eq_getElem h, Option.getD_some]

theorem siz_pop : ∀ zs : List Int, (∀ z ∈ zs, 0 ≤ z ∧ z.toNat < 64) → (zs.map pop).sum + ((zeroN (zs.map pop) : Nat) : Int) = ((sizN zs : Nat) : Int)
  | [], _ => by simp [zeroN, sizN]
  | z :: zs, h => by
    have ih := siz_pop zs fun z hz => h z (by simp [hz])
    obtain ⟨h0, h1⟩ := h z (by simp)
    have e1 := pop_fin ⟨z.toNat, h1⟩
    have e2 := pop_zero ⟨z.toNat, h1⟩
    simp only [Int.toNat_of_nonneg h0] at e1 e2
    have e3 : zeroN ((z :: zs).map pop) = zeroN (zs.map pop) + if z.toNat = 0 then 1 else 0 := by
      unfold zeroN
      rw [List.map_cons, List.countP_cons, e2]
      by_cases e : z.toNat = 0 <;> simp [e]
    have e4 : sizN (z :: zs) = ((memK 8 z.toNat).length + if z = 0 then 1 else 0) + sizN zs := by simp [sizN]
    rw [e3, e4, List.map_cons, List.sum_cons, e1]
    by_cases e : z = 0
    · subst e; simp at ih ⊢; omega
    · have : ¬ z.toNat = 0 := by omega
      rw [if_neg e, if_neg this]
      omega

theorem sum_nn : ∀ l : List Int, (∀ y ∈ l, 0 ≤ y) → 0 ≤ l.sum
  | [], _ => by simp
  | x :: l, h => by
    have h1 := h x (by simp)
    have h2 := sum_nn l fun y hy => h y (by simp [hy])
    rw [List.sum_cons]; omega

theorem pop_bound {zs : List Int} (h : ∀ z ∈ zs, 0 ≤ z ∧ z.toNat < 64) : ∀ y ∈ zs.map pop, 0 ≤ y ∧ y ≤ 8 := by
  intro y hy
  obtain ⟨z, hz, rfl⟩ := List.mem_map.1 hy
  obtain ⟨h0, h1⟩ := h z hz
  have e1 := pop_fin ⟨z.toNat, h1⟩
  simp only [Int.toNat_of_nonneg h0] at e1
  have := memK_len 8 z.toNat
  omega

set_option maxRecDepth 100000 in
set_option maxHeartbeats 8000000 in
theorem walkFnForestCount (a : Option Addr) (n cap : Nat) (w : World) (hb : Bys w w.heap.size a n) (hT : Tab w) (hn : n ≤ 1048576) (hc : n ≤ cap) (hc2 : cap ≤ 9223372036854775807) :
    Calls Tryd.prog 4 #[.slice a n cap] w fun e w' => e = .returned (.bool true) ∧ Below w.heap.size w w' := by
  have HBy := Lib.hid hb
  have HT := Lib.hid hT
  clear hb hT
  go_enter Tryd.func4, Tryd.ntmps4
  go_wp2_with fail
  refine (drawEarForest_any a n cap w HBy.out hn hc hc2).mono ?_
  rintro e w1 ⟨m, a1, zs, c1, rfl, hl, ho1, hb1⟩
  have F1 := FB.start (m := m) (c := c1) (own_ints ho1)
  have B1 := Lib.hid (hb1.trans ((below1 w1 (.cells #[.int .i64 m, .slice a1 zs.length c1] 25)).mono hb1.size))
  have hln : zs.length ≤ 1048576 := by omega
  have f_f_1 := Lib.hid F1
  clear F1 ho1 hb1
  have f_0 := f_f_1.out.x0
  have f_1 := f_f_1.out.x1
  obtain ⟨G, hG⟩ : ∃ G, G = forestB m zs := ⟨_, rfl⟩
  have HI := Lib.hid (fun W hi hT => implForest_any m a1 c1 zs W hi hT hln)
  have HSP := Lib.hid (fun W hi => specForest_any m a1 c1 zs W hi hln)
  have HSI := Lib.hid (fun W hi => implSizes_any m a1 c1 zs W hi hln)
  have HPT := Lib.hid (fun W hi hT => implParts_any m a1 c1 zs W hi hT hln)
  rw [← hG] at HI HSP
  have HG := Lib.hid hG
  clear hG
  go_wp2_with fail
  refine (HI.out _ f_f_1.out.ints (HT.out.below B1.out HT.out.lt)).mono ?_
  rintro e w2 ⟨rfl, hb2⟩
  have B2 := Lib.hid (B1.out.trans (hb2.mono B1.out.size))
  have f_f_2 := Lib.hid (f_f_1.out.step hb2)
  clear hb2 B1 f_f_1
  clear f_0 f_1
  have f_0 := f_f_2.out.x0
  have f_1 := f_f_2.out.x1
  go_wp2_with fail
  refine (HSP.out _ f_f_2.out.ints).mono ?_
  rintro e w3 ⟨rfl, hb3⟩
  have B3 := Lib.hid (B2.out.trans (hb3.mono B2.out.size))
  have f_f_3 := Lib.hid (f_f_2.out.step hb3)
  clear hb3 B2 f_f_2
  clear f_0 f_1
  have f_0 := f_f_3.out.x0
  have f_1 := f_f_3.out.x1
  clear HI HSP
  cases G
  · clear HG HSI HPT
    go_wp2
    go_ret
    exact ⟨rfl, B3.out⟩
  · have hfm : famIn m zs = true := by
      have := HG.out
      unfold forestB at this
      cases h : famIn m zs
      · rw [h] at this; cases this
      · rfl
    obtain ⟨k, hmk, hk1, hk6, hset, hl8⟩ := fam_nat2 hfm
    subst hmk
    have htell : cntP k (ksOf zs) k + sizN zs = k + zs.length := by
      have := forest_tell hfm hk6 hset
      rw [← HG.out] at this
      exact of_decide_eq_true this.symm
    have h64 : ∀ z ∈ zs, 0 ≤ z ∧ z.toNat < 64 := fun z hz => ⟨(hset z hz).1, p64 hk6 (hset z hz).2⟩
    have hsp := siz_pop zs h64
    have HPB := Lib.hid (pop_bound h64)
    have hPle := cntP_le k (ksOf zs) k
    rw [hfm, show sizesZ (k : Int) zs = zs.map pop from by simp [sizesZ, hfm]] at HSI
    rw [hfm, show partsZ (k : Int) zs = ((cntP k (ksOf zs) k : Nat) : Int) from by simp [partsZ, hfm]] at HPT
    obtain ⟨P, hP⟩ : ∃ P, P = cntP k (ksOf zs) k := ⟨_, rfl⟩
    rw [← hP] at HPT htell hPle
    obtain ⟨ys, hys⟩ : ∃ ys, ys = zs.map pop := ⟨_, rfl⟩
    have hyl : ys.length = zs.length := by rw [hys, List.length_map]
    rw [← hys] at HSI hsp HPB
    obtain ⟨LZ, hLZ⟩ : ∃ LZ, LZ = zs.length := ⟨_, rfl⟩
    rw [← hLZ] at htell hyl hl8
    have HSUM : Hid (ys.sum + ((P + zeroN ys : Nat) : Int) = (k : Int) + (LZ : Int)) := Lib.hid (by omega)
    have HSB : Hid (0 ≤ ys.sum ∧ ys.sum ≤ 100) := Lib.hid (by
      constructor
      · exact sum_nn ys fun y hy => (HPB.out y hy).1
      · omega)
    have HLZ := Lib.hid hLZ
    clear hfm hset h64 hsp htell hP hys hLZ hl HG
    go_wp2_with fail
    refine (HSI.out _ f_f_3.out.ints).mono ?_
    rintro e w4 ⟨a4, c4, rfl, ho4, hb4⟩
    have B4 := Lib.hid (B3.out.trans (hb4.mono B3.out.size))
    have f_f_4 := Lib.hid (f_f_3.out.step hb4)
    have HY4 := Lib.hid (own_ints ho4)
    clear ho4 hb4 B3 f_f_3 HSI
    clear f_0 f_1
    have f_0 := f_f_4.out.x0
    have f_1 := f_f_4.out.x1
    go_wp2_with fail
    refine (HPT.out _ f_f_4.out.ints (HT.out.below B4.out HT.out.lt)).mono ?_
    rintro e w5 ⟨rfl, hb5⟩
    have B5 := Lib.hid (B4.out.trans (hb5.mono B4.out.size))
    have f_f_5 := Lib.hid (f_f_4.out.step hb5)
    have HY5 := Lib.hid (HY4.out.step hb5)
    clear hb5 B4 f_f_4 HY4 HPT
    clear f_0 f_1
    have f_0 := f_f_5.out.x0
    have f_1 := f_f_5.out.x1
    rw [← HLZ.out] at f_1
    have HTO := Lib.hid (fun W (hi : Ints W W.heap.size a4 ys) => totalW_any a4 c4 ys W hi (by omega) (fun y hy => by have := HPB.out y hy; omega))
    obtain ⟨S, hS⟩ : ∃ S, S = ys.sum := ⟨_, rfl⟩
    rw [← hS] at HTO HSUM HSB
    rw [hyl] at HTO
    obtain ⟨LY, hLY⟩ : ∃ LY, LY = LZ := ⟨_, rfl⟩
    have HLY : Hid (LY = ys.length) := Lib.hid (by rw [hLY, hyl])
    try rw [hyl]
    clear hS
    go_wp2
    go_loop [8, 10] (fun s i => ∃ j : Nat, j ≤ LZ ∧ i = .int .i64 (j : Int) ∧ s = .int .i64 ((P + zeroN (ys.take j) : Nat) : Int)) (fun _ i => LZ - (intOf i).toNat)
    case atStart => exact ⟨0, Nat.zero_le _, rfl, by simp [zeroN]⟩
    case round =>
      obtain ⟨j, hj, rfl, rfl⟩ := hrel
      have hzl : zeroN (ys.take j) ≤ j := by
        have := List.countP_le_length (p := fun y : Int => y == 0) (l := ys.take j)
        rw [List.length_take] at this
        unfold zeroN; omega
      by_cases hlt : j < LZ
      · obtain ⟨b, off, rfl, hbb, hcc⟩ := HY5.out.at_ (k := j) (by rw [← HLY.out, hLY]; exact hlt)
        have HZT := Lib.hid (zero_take (ys := ys) (i := j) (by rw [← HLY.out, hLY]; exact hlt))
        obtain ⟨y, hy⟩ : ∃ y, y = ys[j]?.getD 0 := ⟨_, rfl⟩
        rw [← hy] at hcc HZT
        obtain ⟨Z, hZ⟩ : ∃ Z, Z = P + zeroN (ys.take j) := ⟨_, rfl⟩
        have HZ := Lib.hid hZ
        rw [← hZ]
        have hZ14 : Z ≤ 14 := by omega
        clear hy hZ hzl
        by_cases hy0 : y = 0
        · subst hy0
          have HE : Hid (P + zeroN (ys.take (j + 1)) = Z + 1) := Lib.hid (by rw [HZT.out, HZ.out]; simp; omega)
          go_wp2
          go_round
          case rel => exact ⟨j + 1, by omega, by go_num, by rw [HE.out]; go_num⟩
          case measure => simp [intOf]; omega
        · have hb1 : (y == 0) = false := by rw [beq_eq_false_iff_ne]; exact hy0
          have HE : Hid (P + zeroN (ys.take (j + 1)) = Z) := Lib.hid (by rw [HZT.out, HZ.out, hb1]; simp)
          clear hy0
          go_wp2
          go_round
          case rel => exact ⟨j + 1, by omega, by go_num, by rw [HE.out]⟩
          case measure => simp [intOf]; omega
      · obtain hjL : j = LZ := by omega
        subst hjL
        obtain ⟨Z, hZ⟩ : ∃ Z, Z = P + zeroN (ys.take j) := ⟨_, rfl⟩
        have hZe : Z = P + zeroN ys := by rw [hZ, List.take_of_length_le (by rw [← HLY.out, hLY]; exact Nat.le_refl _)]
        rw [← hZ]
        rw [← hZe] at HSUM
        have hZ14 : Z ≤ 14 := by omega
        obtain ⟨hs0, hs1⟩ := HSB.out
        have hw1 : IntKind.i64.wrap (S + (Z : Int)) = S + (Z : Int) := IntWalk.i64_in _ (by omega)
        have hw2 : IntKind.i64.wrap ((k : Int) + (j : Int)) = (k : Int) + (j : Int) := IntWalk.i64_in _ (by omega)
        have hge : (S + (Z : Int) == (k : Int) + (j : Int)) = true := by rw [beq_iff_eq]; exact HSUM.out
        clear hZ hZe hzl
        go_wp2
        go_still_tail 15, (by kernel_rfl)
        repeat still_step
        still_call ((HTO.out w5.drew HY5.out).mono fun _ _ h => ⟨h.1, h.2.symm⟩)
        repeat still_step
        try refine wpStill_nil ?_
        change wpList _ _ _ _ _ w5.drew
        go_wp2
        go_ret
        exact ⟨by simp, B5.out.drew⟩

end Go.Proofs.YtphddemilibooaaDoor
