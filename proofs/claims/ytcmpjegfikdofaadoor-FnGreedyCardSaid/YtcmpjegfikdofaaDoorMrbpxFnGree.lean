/- It is proved that the call of the law FnOrbits returns true; conditions: those of each statement. -/
import Derived.RowKit
import Derived.Laws.CopyRow
import Derived.Lib.SlBuf
import Derived.Deep.QuietTactic
import Derived.RangeFuncNested
import Derived.RangeFuncBound
import Derived.RangeFuncCalls
import Derived.RangeFuncLeaves
import Derived.RangeFuncBox
import Derived.RangeFuncWrites
import Derived.StillTailTactics
import Derived.Maps.OwnIn
import Derived.Maps.Ext
import Derived.DeepKeys4
import Derived.MapKept
import Derived.Test.YtcmpjegfikdofaaDoorRows
import Derived.WalkKit
import Derived.WalkSpells
import Derived.ProofKit
import Derived.OpenShut
import Derived.ShutString
import Derived.ChangeOld
import Derived.Below
import Derived.Deep.RegionHeld3
import Derived.BigQuiet
import Derived.Lib.Hide
import Derived.Lib.SmallJoins
import Derived.Outline
import Derived.Laws.MakeOwn
import Derived.Laws.OwnMore
import Derived.IntWalk
import Derived.Maps.AppendAt
import Derived.Sort.MapsRangeIn
import Derived.Deep.RegionLaw
import Derived.Deep.AppendLies
import Derived.Lib.AppendZeros
import Derived.OwnWalk
import Derived.Lib.SlicesCompact
import Derived.Lib.OwnBridge
import Derived.OrdersIn
import Derived.TacticsIn
import Derived.Shelf.Sort.Plain
import Derived.Shelf.Slices.In.SortNone
import Derived.Shelf.Slices.CompactI
import Derived.Ground.Names2Prog
import Derived.Shelf.Abstract
import Derived.Shelf.RegionOpen
import Derived.OwnWalkIn
import Derived.TacticsInMore
import Derived.LoopNIn
import Derived.LoopIn
import Derived.StillTail
import Derived.StillTactics
import Derived.Shelf.Spec.TrailingZeros
import Derived.Test.YtcmpjegfikdofaaDoorMrav
import Derived.Deep.RegionWith
import Derived.Lib.SliceRun
import Derived.Test.YtcmpjegfikdofaaDoorMrbkxFnGree
import Derived.Test.YtcmpjegfikdofaaDoorMraa
import Derived.Test.YtcmpjegfikdofaaDoorMrae
import Derived.Test.YtcmpjegfikdofaaDoorMrac
import Derived.Test.YtcmpjegfikdofaaDoorDb
import Derived.Test.YtcmpjegfikdofaaDoorMraf
import Derived.Test.YtcmpjegfikdofaaDoorMrag
import Derived.Test.YtcmpjegfikdofaaDoorKa
import Derived.Test.YtcmpjegfikdofaaDoorKc
import Derived.Test.YtcmpjegfikdofaaDoorMrbe
import Derived.Test.YtcmpjegfikdofaaDoorMrbc
import Derived.Test.YtcmpjegfikdofaaDoorMrbmxFnGree
import Derived.Test.YtcmpjegfikdofaaDoorMrbnxFnGree
import Derived.Test.YtcmpjegfikdofaaDoorMrboxFnGree
import Derived.Test.YtcmpjegfikdofaaDoorMrblxFnGree
import Derived.Test.YtcmpjegfikdofaaDoorMrab
import Derived.Test.YtcmpjegfikdofaaDoorMrao
namespace Go.Proofs.YtcmpjegfikdofaaDoor
open Go.RowKit

set_option maxRecDepth 100000 in
theorem lawSize_any (z : Int) (w : World) (h0 : 0 ≤ z) (h : z ≤ 63) : Calls Tryd.prog 32 #[.int .i64 z] w fun e w' => e = .returned (.int .i64 (pop z)) ∧ w = w' := by
  go_enter Tryd.func32, Tryd.ntmps32
  go_wp2
  go_loop [0, 3] (fun s n => ∃ (f : Nat) (t k : Int), 0 ≤ t ∧ t < 2 ^ f ∧ f ≤ 6 ∧ 0 ≤ k ∧ k ≤ 6 - (f : Int) ∧ k + popN (f + 1) t = pop z ∧ s = .int .i64 t ∧ n = .int .i64 k) (fun s _ => (intOf s).toNat)
  case atStart => exact ⟨6, z, 0, by omega, by simp; omega, by omega, by omega, by omega, by simp [pop], rfl, rfl⟩
  case round =>
    obtain ⟨f, t, k, h1, h2, h3, h4, h5, h6, rfl, rfl⟩ := hrel
    have ht63 : t ≤ 63 := by
      have : (2 : Int) ^ f ≤ 2 ^ 6 := by
        obtain rfl | rfl | rfl | rfl | rfl | rfl | rfl : f = 0 ∨ f = 1 ∨ f = 2 ∨ f = 3 ∨ f = 4 ∨ f = 5 ∨ f = 6 := by omega
        all_goals decide
      have h64 : (2 : Int) ^ 6 = 64 := by decide
      omega
    have H2 := Lib.hid h2
    have H6 := Lib.hid h6
    have HB := Lib.hid (bit_small t h1 ht63)
    clear h2 h6
    by_cases ht : 0 < t
    · obtain ⟨hb0, hb1⟩ := HB.out
      cases f with
      | zero => have := H2.out; simp at this; omega
      | succ f =>
        have hb2 : bits .and .i64 t 1 ≤ 1 := hb1
        go_wp2
        go_round
        case rel => exact ⟨f, t / 2, k + bits .and .i64 t 1, by omega, by have := H2.out; rw [Int.pow_succ] at this; omega, by omega, by omega, by omega, by have := H6.out; rw [popN, if_pos ht] at this; omega, rfl, rfl⟩
        case measure => simp [intOf]; omega
    · have HP : Hid (k = pop z) := Lib.hid (by have := H6.out; rw [popN, if_neg ht] at this; omega)
      go_wp2
      go_ret
      exact ⟨ret_int HP.out, rfl⟩

theorem foldor_lt {k : Nat} : ∀ (L : List Nat) (s : Nat), s < 2 ^ k → (∀ x ∈ L, x < 2 ^ k) → L.foldl (· ||| ·) s < 2 ^ k
  | [], s, hs, _ => hs
  | x :: L, s, hs, h => by
    rw [List.foldl_cons]
    exact foldor_lt L _ (Nat.or_lt_two_pow hs (h x (by simp))) (fun y hy => h y (by simp [hy]))

end Go.Proofs.YtcmpjegfikdofaaDoor

/- It is proved that the call of the law FnGreedy returns true; conditions: those of each statement. -/
namespace Go.Proofs.YtcmpjegfikdofaaDoor
open Go.RowKit

set_option maxRecDepth 100000 in
theorem pop_bit_fin : ∀ v : Fin 6, popS (2 ^ v.val) = 1 := by decide +kernel

theorem grG_size {m : Nat} (hm : m ≤ 6) {zs : List Int} (hz : ∀ z ∈ zs, 0 < z.toNat ∧ z.toNat < 2 ^ m) : ∀ (n s : Nat), s < 2 ^ m → popS (grG m zs n s) ≤ popS s + n
  | 0, s, _ => Nat.le_refl _
  | n + 1, s, hs => by
    cases hc : covB zs s
    · rw [grG_step hc]
      obtain ⟨h1, -, -, h4⟩ := greedy_step hz hs hc
      have ih := grG_size hm hz n _ h4
      have hs6 := p64 hm hs
      have hb6 : (bestP (dgN zs s) m).1 < 6 := by omega
      have hj := pop_join_fin ⟨s, hs6⟩ ⟨2 ^ (bestP (dgN zs s) m).1, Nat.pow_lt_pow_right (a := 2) (m := (bestP (dgN zs s) m).1) (n := 6) (by decide) hb6⟩
      have hp := pop_bit_fin ⟨(bestP (dgN zs s) m).1, hb6⟩
      simp only at hj hp
      have : popS (nxG m zs s) ≤ popS s + 1 := by unfold nxG; omega
      omega
    · rw [grG_cov hc]; omega

theorem greedy_facts {m : Int} {zs : List Int} (h : greIn m zs = true) :
    ∃ g : Nat, greZ m zs = (g : Int) ∧ g < 64 ∧ famIn m zs = true ∧ smallOk m zs = true ∧ smallZ m zs ≤ pop (g : Int) ∧ pop (g : Int) ≤ (zs.length : Int) ∧ inCov m zs (g : Int) = true := by
  have h' := h
  unfold greIn at h'
  rw [Bool.and_eq_true, Bool.not_eq_true'] at h'
  obtain ⟨hf, h0⟩ := h'
  obtain ⟨k, rfl, hk1, hk6, hS, -⟩ := fam_nat2 hf
  have hpos := gre_sets hS h0
  obtain ⟨hc, hlt⟩ := greedy_end hpos zs.length 0 (Nat.two_pow_pos k) (missL_len zs 0)
  have hsz := grG_size hk6 hpos zs.length 0 (Nat.two_pow_pos k)
  have hz : greZ (k : Int) zs = ((grG k zs zs.length 0 : Nat) : Int) := by unfold greZ; rw [h, if_pos rfl, Int.toNat_natCast]
  refine ⟨grG k zs zs.length 0, hz, p64 hk6 hlt, hf, ?_⟩
  generalize grG k zs zs.length 0 = g at hc hlt hsz
  obtain ⟨t, ht1, ht2, ht3⟩ := min_below hk6 g g (Nat.le_refl _) hlt hc
  have hm : ((t : Nat) : Int) ∈ lcL k zs := lcL_mem.2 ⟨t, rfl, ht2, ht3⟩
  have hok : smallOk (k : Int) zs = true := by
    unfold smallOk
    rw [hf, Int.toNat_natCast, Bool.true_and, Bool.not_eq_true', decide_eq_false_iff_not]
    intro e
    rw [e] at hm
    cases hm
  have hp0 : popS 0 = 0 := by decide
  refine ⟨hok, ?_, ?_, ?_⟩
  · unfold smallZ
    rw [hok, if_pos rfl, Int.toNat_natCast]
    have h1 := (foldmin_le (lcL k zs) (k : Int)).2 _ hm
    have h2 := pop_sub2_fin ⟨t, p64 hk6 ht2⟩ ⟨g, p64 hk6 hlt⟩ ht1
    rw [pop_nat (p64 hk6 ht2)] at h1
    rw [pop_nat (p64 hk6 hlt)]
    simp only at h2
    omega
  · rw [pop_nat (p64 hk6 hlt)]
    omega
  · unfold inCov
    have hp := Nat.two_pow_pos k
    have hfn := full_nat k
    rw [hf, Int.toNat_natCast, hc, hfn]
    simp [inB]
    omega

set_option maxRecDepth 100000 in
set_option maxHeartbeats 8000000 in
theorem walkFnGreedy (a : Option Addr) (n cap : Nat) (w : World) (hb : Bys w w.heap.size a n) (hT : Tab w) (hn : n ≤ 1048576) (hc : n ≤ cap) (hc2 : cap ≤ 9223372036854775807) :
    Calls Tryd.prog 7 #[.slice a n cap] w fun e w' => e = .returned (.bool true) ∧ Below w.heap.size w w' := by
  have HBy := Lib.hid hb
  have HT := Lib.hid hT
  clear hb hT
  go_enter Tryd.func7, Tryd.ntmps7
  go_wp2_with fail
  refine (drawCoverGreedy_any a n cap w HBy.out hn hc hc2).mono ?_
  rintro e w1 ⟨m, a1, zs, c1, rfl, hl, ho1, hb1⟩
  have F1 := FB.start (m := m) (c := c1) (own_ints ho1)
  have B1 := Lib.hid (hb1.trans ((below1 w1 (.cells #[.int .i64 m, .slice a1 zs.length c1] 25)).mono hb1.size))
  have hln : zs.length ≤ 1048576 := by omega
  have f_f_1 := Lib.hid F1
  clear F1 ho1 hb1
  have f_0 := f_f_1.out.x0
  have f_1 := f_f_1.out.x1
  obtain ⟨G, hG⟩ : ∃ G, G = greZ m zs := ⟨_, rfl⟩
  obtain ⟨K, hK⟩ : ∃ K, K = greIn m zs := ⟨_, rfl⟩
  have HI := Lib.hid (fun W hi hT => implGreedy_any m a1 c1 zs W hi hT hln)
  have HSP := Lib.hid (fun W hi => specGreedy_any m a1 c1 zs W hi hln)
  rw [← hG, ← hK] at HI HSP
  have HG := Lib.hid hG
  have HK := Lib.hid hK
  clear hG hK
  go_wp2_with fail
  refine (HI.out _ f_f_1.out.ints (HT.out.below B1.out HT.out.lt)).mono ?_
  rintro e w2 ⟨rfl, hb2⟩
  have B2 := Lib.hid (B1.out.trans (hb2.mono B1.out.size))
  have f_f_2 := Lib.hid (f_f_1.out.step hb2)
  clear hb2 B1 f_f_1
  clear f_0 f_1
  have f_0 := f_f_2.out.x0
  have f_1 := f_f_2.out.x1
  go_wp2_with fail
  refine (HSP.out _ f_f_2.out.ints).mono ?_
  rintro e w3 ⟨rfl, hb3⟩
  have B3 := Lib.hid (B2.out.trans (hb3.mono B2.out.size))
  have f_f_3 := Lib.hid (f_f_2.out.step hb3)
  clear hb3 B2 f_f_2
  clear f_0 f_1
  have f_0 := f_f_3.out.x0
  have f_1 := f_f_3.out.x1
  clear HI HSP
  cases K
  · clear HK HG
    go_wp2
    go_ret
    exact ⟨rfl, B3.out⟩
  · obtain ⟨g, e0, hg64, e1, e2, e3, e4, e5⟩ := greedy_facts HK.out.symm
    obtain rfl : G = (g : Int) := HG.out.trans e0
    obtain ⟨P, hP⟩ : ∃ P, P = pop (g : Int) := ⟨_, rfl⟩
    obtain ⟨Q, hQ⟩ : ∃ Q, Q = smallZ m zs := ⟨_, rfl⟩
    rw [← hP, ← hQ] at e3
    rw [← hP] at e4
    have HSM := Lib.hid (fun W hi => implCoverSmall_any m a1 c1 zs W hi hln)
    rw [e2, ← hQ] at HSM
    have HCI := Lib.hid (fun W hi => implCoverIn_any m a1 c1 zs (g : Int) W hi hln)
    rw [e5] at HCI
    have HSZ := Lib.hid (fun W => lawSize_any (g : Int) W (by omega) (by omega))
    rw [← hP] at HSZ
    clear HG HK e0 e1 e2 e5 hP hQ
    go_wp2_with fail
    refine (HSM.out _ f_f_3.out.ints).mono ?_
    rintro e w4 ⟨rfl, hb4⟩
    have B4 := Lib.hid (B3.out.trans (hb4.mono B3.out.size))
    have f_f_4 := Lib.hid (f_f_3.out.step hb4)
    clear hb4 B3 f_f_3
    clear f_0 f_1
    have f_0 := f_f_4.out.x0
    have f_1 := f_f_4.out.x1
    obtain ⟨Y, hY⟩ : ∃ Y, Y = zs.length := ⟨_, rfl⟩
    have hY1 : Y ≤ 1048576 := by rw [hY]; exact hln
    have e4' : P ≤ (Y : Int) := by rw [hY]; exact e4
    have f_1' : w4.cell? ⟨w1.heap.size, 1, none⟩ = some (.slice a1 Y c1) := by rw [hY]; exact f_1
    have HCI2 : Hid (∀ W, Ints W W.heap.size a1 zs → Calls Tryd.prog 31 #[.agg #[.int .i64 m, .slice a1 Y c1], .int .i64 (g : Int)] W fun e w' => e = .returned (.bool true) ∧ Below W.heap.size W w') := Lib.hid (by rw [hY]; exact HCI.out)
    have hlt2 : w1.heap.size < w4.drew.heap.size := lt_of_some f_f_4.out.blk
    have HI2 : Hid (Ints w4.drew w4.drew.heap.size a1 zs) := Lib.hid (show Ints w4 w4.heap.size a1 zs from f_f_4.out.ints)
    have hD : Below w4.heap.size w4 w4.drew := ⟨rfl, rfl, rfl, Nat.le_refl _, fun _ _ => rfl⟩
    have HBD := Lib.hid (B4.out.trans (hD.mono B4.out.size))
    clear f_1 hY HCI HSM e4 hD hl
    go_wp2
    go_region_held3 (fun w' => w'.cell? ⟨w1.heap.size, 0, none⟩ = some (.int .i64 m) ∧ w'.cell? ⟨w1.heap.size, 1, none⟩ = some (.slice a1 Y c1))
      (first
        | exact ⟨f_0, f_1'⟩
        | exact ⟨(hb6.cell (p := ⟨w1.heap.size, 0, none⟩) hlt2).trans f_0, (hb6.cell (p := ⟨w1.heap.size, 1, none⟩) hlt2).trans f_1'⟩)
      (first
        | (go_at_call 31; refine (HCI2.out _ HI2.out).mono ?_; rintro e w6 ⟨rfl, hb6⟩)
        | (go_at_call 32; refine (HSZ.out _).mono ?_; rintro e w9 ⟨rfl, rfl⟩))
    have HR := Lib.hid (HBD.out.trans (hb6.mono HBD.out.size))
    rename_i hHeldX
    clear hHeldX hb6
    go_wp2
    go_ret
    exact ⟨rfl, HR.out⟩

end Go.Proofs.YtcmpjegfikdofaaDoor
