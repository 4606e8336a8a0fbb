/- It is proved what the reference model's l1Size tells of sets of eight, and l5Together; conditions: those of each statement. -/
import Derived.RowKit
import Derived.Laws.CopyRow
import Derived.Lib.SlBuf
import Derived.Deep.QuietTactic
import Derived.RangeFuncNested
import Derived.RangeFuncBound
import Derived.RangeFuncCalls
import Derived.RangeFuncLeaves
import Derived.RangeFuncBox
import Derived.RangeFuncWrites
import Derived.StillTailTactics
import Derived.Maps.OwnIn
import Derived.Maps.Ext
import Derived.DeepKeys4
import Derived.MapKept
import Derived.Test.YtacglafoahmcnaaDoorRows
import Derived.WalkKit
import Derived.WalkSpells
import Derived.ProofKit
import Derived.OpenShut
import Derived.ShutString
import Derived.ChangeOld
import Derived.Below
import Derived.Deep.RegionHeld3
import Derived.BigQuiet
import Derived.Lib.Hide
import Derived.Lib.SmallJoins
import Derived.Outline
import Derived.Laws.MakeOwn
import Derived.Laws.OwnMore
import Derived.IntWalk
import Derived.Maps.AppendAt
import Derived.Deep.RegionLaw
import Derived.Deep.AppendLies
import Derived.Lib.AppendZeros
import Derived.OwnWalk
import Derived.Lib.SlicesCompact
import Derived.Lib.OwnBridge
import Derived.OrdersIn
import Derived.TacticsIn
import Derived.Shelf.Sort.Plain
import Derived.Shelf.Slices.In.SortNone
import Derived.Shelf.Slices.CompactI
import Derived.Ground.Names2Prog
import Derived.Lib.SliceRun
import Derived.Shelf.RegionOpen
import Derived.Shelf.Abstract
import Derived.OwnWalkIn
import Derived.TacticsInMore
import Derived.LoopNIn
import Derived.LoopIn
import Derived.StillTail
import Derived.StillTactics
import Derived.Shelf.Spec.TrailingZeros
import Derived.Test.YtacglafoahmcnaaDoorRabnxFnColo
import Derived.Sort.MapsRangeIn
import Derived.Deep.LoopGhost
import Derived.Test.YtacglafoahmcnaaDoorRaaa
import Derived.Test.YtacglafoahmcnaaDoorRaac
import Derived.Test.YtacglafoahmcnaaDoorRaaw
import Derived.Test.YtacglafoahmcnaaDoorRaaq
import Derived.Test.YtacglafoahmcnaaDoorRaag
import Derived.Test.YtacglafoahmcnaaDoorRaazxFnColo
import Derived.Test.YtacglafoahmcnaaDoorRabgxFnColo
import Derived.Test.YtacglafoahmcnaaDoorRabmxFnColo
import Derived.Test.YtacglafoahmcnaaDoorRaal
import Derived.Test.YtacglafoahmcnaaDoorRaam
import Derived.Test.YtacglafoahmcnaaDoorRabbxFnColo
import Derived.Test.YtacglafoahmcnaaDoorRabjxFnColo
import Derived.Test.YtacglafoahmcnaaDoorRaab
import Derived.Test.YtacglafoahmcnaaDoorRaae
import Derived.Test.YtacglafoahmcnaaDoorRaat
import Derived.Deep.RegionWith
import Derived.Laws.BitsAllLaws
import Derived.Test.YtacglafoahmcnaaDoorRaax
import Derived.Test.YtacglafoahmcnaaDoorTb
namespace Go.Proofs.YtacglafoahmcnaaDoor
open Go.RowKit

set_option maxRecDepth 100000 in
theorem cnt8_half : ∀ t : Fin 256, cntK 8 t.val = t.val % 2 + cntK 8 (t.val / 2) := by decide +kernel

set_option maxRecDepth 100000 in
theorem low8_fin : ∀ t : Fin 256, bits .and .i64 (t.val : Int) 1 = ((t.val % 2 : Nat) : Int) := by decide +kernel

set_option maxRecDepth 100000 in
theorem l1SizeW_any (z : Nat) (w : World) (h : z < 256) : Calls Tryd.prog 71 #[.int .i64 (z : Int)] w fun e w' => e = .returned (.int .i64 ((cntK 8 z : Nat) : Int)) ∧ w = w' := by
  go_enter Tryd.func71, Tryd.ntmps71
  go_wp2
  go_loop [0, 3] (fun s n => ∃ t k : Nat, t < 256 ∧ k + cntK 8 t = cntK 8 z ∧ s = .int .i64 (t : Int) ∧ n = .int .i64 (k : Int)) (fun s _ => (intOf s).toNat)
  case atStart => exact ⟨z, 0, h, by omega, rfl, rfl⟩
  case round =>
    obtain ⟨t, k, ht, hk, rfl, rfl⟩ := hrel
    have hz8 := cntK_bound 8 z
    have hk8 : k ≤ 8 := by omega
    have hlow := low8_fin ⟨t, ht⟩
    have hhf := cnt8_half ⟨t, ht⟩
    simp only at hlow hhf
    have HK := Lib.hid hk
    have HH := Lib.hid hhf
    have hm2 : t % 2 < 2 := Nat.mod_lt _ (by decide)
    obtain ⟨r, hr⟩ : ∃ r, r = t % 2 := ⟨_, rfl⟩
    rw [← hr] at hlow hm2
    have HR := Lib.hid hr
    have htI : (t : Int) ≤ 255 := by omega
    have hkI : (k : Int) ≤ 8 := by omega
    have hrI : (r : Int) ≤ 1 := by omega
    clear hk hhf hr
    by_cases h0 : 0 < t
    · have h0I : (0 : Int) < (t : Int) := by omega
      go_wp2
      go_round
      case rel => exact ⟨t / 2, k + r, by omega, by have := HK.out; have := HH.out; have := HR.out; omega, by go_num, by go_num⟩
      case measure => simp [intOf]; omega
    · have ht0 : t = 0 := by omega
      have e0 : cntK 8 t = 0 := by rw [ht0]; unfold cntK; rw [memK_zero]; rfl
      have HE : Hid (cntK 8 z = k) := Lib.hid (by have := HK.out; omega)
      have h0I : ¬ ((0 : Int) < (t : Int)) := by omega
      clear ht0 e0
      go_wp2
      go_ret
      exact ⟨by rw [HE.out]; rfl, rfl⟩

end Go.Proofs.YtacglafoahmcnaaDoor

/- It is proved what ColourLeast returns, of both sides; conditions: those of each statement. -/
namespace Go.Proofs.YtacglafoahmcnaaDoor
open Go.RowKit

/-- All clubs have two members. -/
def ablZ (z : Int) : Bool := decide (2 ≤ cntK 8 z.toNat)

def ablB (zs : List Int) : Bool := zs.all ablZ
def leastC (m : Nat) (zs : List Int) : Nat := ((List.range 6).find? fun i => decide (0 < cntCM m zs (i + 1))).getD 0 + 1
theorem leastC_is {m k : Nat} {zs : List Int} (hk : k < 6) (h0 : ∀ j, j < k → cntCM m zs (j + 1) = 0) (h1 : 0 < cntCM m zs (k + 1)) : leastC m zs = k + 1 := by
  unfold leastC
  have := find_range (fun i => i) (fun i => decide (0 < cntCM m zs (i + 1))) (P := 6) hk (fun i hi => by rw [h0 i hi]; rfl) (by simpa using h1)
  rw [List.map_id'] at this
  rw [this]
  rfl

theorem firstC_cnt (m : Nat) (zs : List Int) (k : Nat) : (firstC m zs k).isSome = decide (0 < cntCM m zs k) := by
  rw [Bool.eq_iff_iff, decide_eq_true_iff]
  unfold firstC cntCM
  rw [List.find?_isSome, List.countP_pos_iff]

theorem cnt_full {m : Nat} (hm : m ≤ 6) {zs : List Int} (hz : Sets m zs) (ha : ablB zs = true) : 0 < cntCM m zs m := by
  unfold cntCM
  rw [List.countP_pos_iff]
  refine ⟨palI m, (wordsL_mem _ _ _).2 ⟨palI_len m, fun c h => h⟩, ?_⟩
  unfold mixB
  rw [List.all_eq_true]
  intro z hzz
  have h2 : 2 ≤ cntK 8 z.toNat := by
    have := List.all_eq_true.1 ha z hzz
    unfold ablZ at this
    rwa [decide_eq_true_eq] at this
  have h64 := p64 hm (hz z hzz).2
  unfold cntK at h2
  rw [mem8 h64] at h2
  rw [mixZ_iff]
  match hmm : mem z.toNat with
  | [] => rw [hmm] at h2; simp at h2
  | [_] => rw [hmm] at h2; simp at h2
  | v :: w :: t =>
    have hv : v ∈ mem z.toNat := by rw [hmm]; simp
    have hw : w ∈ mem z.toNat := by rw [hmm]; simp
    have hvm := mem_lt m hm _ (hz z hzz).2 v hv
    have hwm := mem_lt m hm _ (hz z hzz).2 w hw
    refine ⟨v, by simp, w, by simp, ?_⟩
    have hnd := mem_nodS z.toNat
    rw [hmm] at hnd
    have hne : v ≠ w := by
      rintro rfl
      simp at hnd
    have e : ∀ u, u < m → (palI m)[u]?.getD 0 = (u : Int) := fun u hu => by simp [palI, hu]
    rw [e v hvm, e w hwm]
    omega

def outCL (m : Int) (zs : List Int) : Int := if famIn m zs && ablB zs then ((leastC m.toNat zs : Nat) : Int) else 0
def okCL (m : Int) (zs : List Int) : Bool := famIn m zs && ablB zs
theorem abl_no {zs : List Int} {k : Nat} (hk : k < zs.length) (h : ablZ (zs[k]?.getD 0) = false) : ablB zs = false := by
  unfold ablB
  rw [List.all_eq_false]
  refine ⟨zs[k], List.getElem_mem hk, ?_⟩
  rw [List.getElem?_eq_getElem hk, Option.getD_some] at h
  simp [h]

theorem abl_yes {zs : List Int} (h : ∀ j, j < zs.length → ablZ (zs[j]?.getD 0) = true) : ablB zs = true := by
  unfold ablB
  rw [List.all_eq_true]
  intro z hz
  obtain ⟨j, hj, rfl⟩ := List.mem_iff_getElem.1 hz
  have := h j hj
  rwa [List.getElem?_eq_getElem hj, Option.getD_some] at this

theorem able1_any (z : Nat) (hz : z < 64) (w : World) :
    Calls Tryd.prog 101 #[.int .i64 (z : Int)] w fun e w' => e = .returned (.bool (!ablZ (z : Int))) ∧ w = w' := by
  have HS : Hid (∀ W, Calls Tryd.prog 53 #[.int .i64 (z : Int)] W fun e w' => e = .returned (.int .i64 ((cntK 8 z : Nat) : Int)) ∧ W = w') := Lib.hid fun W => sizeW_any z W (by omega)
  have HA : Hid (ablZ (z : Int) = decide (2 ≤ cntK 8 z)) := Lib.hid rfl
  obtain ⟨K, hK⟩ : ∃ K, K = cntK 8 z := ⟨_, rfl⟩
  rw [← hK] at HS HA
  clear hK hz
  by_cases h : (K : Int) < 2
  · have HE : Hid (ablZ (z : Int) = false) := Lib.hid (by rw [HA.out]; simp; omega)
    go_enter Tryd.func101, Tryd.ntmps101
    go_wp2_with fail
    refine (HS.out _).mono ?_
    rintro e w1 ⟨rfl, rfl⟩
    go_wp2
    go_ret
    exact ⟨by rw [HE.out]; first | rfl | (simp; omega), rfl⟩
  · have HE : Hid (ablZ (z : Int) = true) := Lib.hid (by rw [HA.out]; simp; omega)
    have h' : (2 : Int) ≤ (K : Int) := by omega
    go_enter Tryd.func101, Tryd.ntmps101
    go_wp2_with fail
    refine (HS.out _).mono ?_
    rintro e w1 ⟨rfl, rfl⟩
    go_wp2
    go_ret
    exact ⟨by rw [HE.out]; first | rfl | (simp; omega), rfl⟩

set_option maxRecDepth 100000 in
set_option maxHeartbeats 2000000 in
theorem indexA_any (b : Option Addr) (c : Nat) (zs : List Int) (hz : ∀ z ∈ zs, 0 ≤ z ∧ z.toNat < 64) (hx8 : zs.length ≤ 1048576) (w : World) (hb : Ints w w.heap.size b zs) :
    Calls Tryd.prog 131 #[.slice b zs.length c, .func (.func 101) #[] #[]] w fun e w' =>
      ∃ r : Int, e = .returned (.int .i64 r) ∧ decide (0 ≤ r) = !ablB zs ∧ w = w' := by
  obtain ⟨N, hN⟩ : ∃ N, N = zs.length := ⟨_, rfl⟩
  have HN : Hid (N = zs.length) := Lib.hid hN
  have HI := Lib.hid hb
  have HZ := Lib.hid hz
  rw [← hN]
  rw [← hN] at hx8
  clear hN hb hz
  go_enter Tryd.func131, Tryd.ntmps131
  go_wp2
  go_loop [5, 8] (fun _ i => ∃ k : Nat, k ≤ N ∧ i = .int .i64 k ∧ Hid (∀ j, j < k → ablZ (zs[j]?.getD 0) = true)) (fun _ i => N - (intOf i).toNat)
  case atStart => exact ⟨0, Nat.zero_le _, rfl, Lib.hid fun j hj => by omega⟩
  case round =>
    obtain ⟨k, hk, rfl, HE⟩ := hrel
    by_cases hlt : k < N
    · have hki : (k : Int) < (N : Int) := by omega
      have hk0 : (0 : Int) ≤ (k : Int) := by omega
      obtain ⟨b1, o1, rfl, hb1, hc⟩ := HI.out.at_ (k := k) (by rw [← HN.out]; exact hlt)
      have hin := at_in (xs := zs) (k := k) (by rw [← HN.out]; exact hlt)
      obtain ⟨z, hzz⟩ : ∃ z : Nat, zs[k]?.getD 0 = (z : Int) := ⟨(zs[k]?.getD 0).toNat, by have := (HZ.out _ hin).1; omega⟩
      have hzn := (HZ.out _ hin).2
      rw [hzz, Int.toNat_natCast] at hzn
      have HC := Lib.hid (fun W => able1_any z hzn W)
      have HZZ := Lib.hid hzz
      rw [hzz] at hc
      clear hzz hin
      cases hf : ablZ (z : Int)
      · have HF := Lib.hid hf
        clear hf
        go_wp2_with (go_at_call 101; refine (HC.out _).mono ?_; rintro e w3 ⟨rfl, rfl⟩; rw [HF.out])
        go_ret
        exact ⟨_, rfl, by rw [abl_no (k := k) (by rw [← HN.out]; exact hlt) (by rw [HZZ.out]; exact HF.out)]; simp, rfl⟩
      · have HF := Lib.hid hf
        clear hf
        go_wp2_with (go_at_call 101; refine (HC.out _).mono ?_; rintro e w3 ⟨rfl, rfl⟩; rw [HF.out])
        go_round
        case rel => exact ⟨k + 1, by omega, by go_num, Lib.hid fun j hj => by
          rcases Nat.lt_succ_iff_lt_or_eq.1 hj with h | rfl
          · exact HE.out j h
          · rw [HZZ.out]; exact HF.out⟩
        case measure => simp [intOf]; omega
    · obtain rfl : k = N := by omega
      go_wp2
      go_ret
      exact ⟨_, rfl, by rw [abl_yes (by rw [← HN.out]; exact HE.out)]; decide, rfl⟩

set_option maxRecDepth 100000 in
theorem containsA_any (b : Option Addr) (c : Nat) (zs : List Int) (hz : ∀ z ∈ zs, 0 ≤ z ∧ z.toNat < 64) (hx8 : zs.length ≤ 1048576) (w : World) (hb : Ints w w.heap.size b zs) :
    Calls Tryd.prog 100 #[.slice b zs.length c, .func (.func 101) #[] #[]] w fun e w' => e = .returned (.bool (!ablB zs)) ∧ w = w' := by
  have H := Lib.hid (indexA_any b c zs hz hx8 w hb)
  clear hb hz
  go_enter Tryd.func100, Tryd.ntmps100
  go_wp2_with fail
  refine H.out.mono ?_
  rintro e w1 ⟨r, rfl, hr, rfl⟩
  have HR := Lib.hid hr
  clear hr
  by_cases h : 0 ≤ r
  · go_wp2
    go_ret
    exact ⟨by rw [← HR.out, decide_eq_true h]; rfl, rfl⟩
  · have h' : r < 0 := by omega
    go_wp2
    go_ret
    exact ⟨by rw [← HR.out]; rfl, rfl⟩

set_option maxRecDepth 100000 in
theorem able_any (m : Int) (a : Option Addr) (c : Nat) (zs : List Int) (hz : ∀ z ∈ zs, 0 ≤ z ∧ z.toNat < 64) (hx8 : zs.length ≤ 1048576) (w : World) (ha : Ints w w.heap.size a zs) :
    Calls Tryd.prog 69 #[.agg #[.int .i64 m, .slice a zs.length c]] w fun e w' => e = .returned (.bool (ablB zs)) ∧ Below w.heap.size w w' := by
  have HB0 := Lib.hid (below1 w (.cells #[.int .i64 m, .slice a zs.length c] 25))
  have HC := Lib.hid (containsA_any a c zs hz hx8 (w.alloc (.cells #[.int .i64 m, .slice a zs.length c] 25)) ((ha.below HB0.out).mono (by simp)))
  clear ha hz
  cases hb : ablB zs
  all_goals
    have HB := Lib.hid hb
    clear hb
    go_enter Tryd.func69, Tryd.ntmps69
    go_wp2_with fail
    refine HC.out.mono ?_
    rintro e w1 ⟨rfl, rfl⟩
    rw [HB.out]
    go_wp2
    go_ret
    exact ⟨rfl, HB0.out⟩

set_option maxRecDepth 100000 in
set_option maxHeartbeats 2000000 in
theorem implColourLeast_any (m : Int) (a : Option Addr) (c : Nat) (zs : List Int) (w : World) (ha : Ints w w.heap.size a zs) (hT : Tab w) (hx : zs.length ≤ 1048576) :
    Calls Tryd.prog 27 #[.agg #[.int .i64 m, .slice a zs.length c]] w (RetIB w (outCL m zs) (okCL m zs)) := by
  have HB0 := Lib.hid (below1 w (.cells #[.int .i64 m, .slice a zs.length c] 25))
  have HA := Lib.hid (ha.below HB0.out)
  have HA0 := Lib.hid ha
  clear ha
  cases hf : famIn m zs
  · have HF := Lib.hid hf
    have HZ : Hid (outCL m zs = 0) := Lib.hid (by unfold outCL; rw [hf]; rfl)
    have HO : Hid (okCL m zs = false) := Lib.hid (by unfold okCL; rw [hf]; rfl)
    clear hf hT
    go_enter Tryd.func27, Tryd.ntmps27
    go_wp2_with fail
    refine (implFamilyIn_any _ _ _ zs _ (HA.out.mono (by simp)) hx).mono ?_
    rintro e w1 ⟨rfl, hb⟩
    rw [HF.out]
    have HB := Lib.hid (HB0.out.trans (hb.mono (by simp)))
    clear hb
    go_wp2
    go_ret2
    exact ⟨by rw [HZ.out, HO.out]; rfl, HB.out⟩
  · have HF := Lib.hid hf
    obtain ⟨m, rfl, hm1, hm6, hset, hl8⟩ := fam_nat2 hf
    have hz64 : ∀ z ∈ zs, 0 ≤ z ∧ z.toNat < 64 := fun z h => ⟨(hset z h).1, p64 hm6 (hset z h).2⟩
    have HAB : Hid (∀ W, Ints W W.heap.size a zs → Calls Tryd.prog 69 #[.agg #[.int .i64 (m : Int), .slice a zs.length c]] W fun e w' => e = .returned (.bool (ablB zs)) ∧ Below W.heap.size W w') := Lib.hid fun W h => able_any (m : Int) a c zs hz64 hx W h
    have HZ : Hid (outCL (m : Int) zs = if ablB zs then ((leastC m zs : Nat) : Int) else 0) := Lib.hid (by unfold outCL; rw [hf]; rfl)
    have HO : Hid (okCL (m : Int) zs = ablB zs) := Lib.hid (by unfold okCL; rw [hf]; rfl)
    have HFF : Hid (∀ (k : Nat) W, k ≤ 6 → Ints W W.heap.size a zs → Tab W → Calls Tryd.prog 70 #[.agg #[.int .i64 (m : Int), .slice a zs.length c], .int .i64 (k : Int)] W (RetSB W ((firstC m zs k).getD []) (firstC m zs k).isSome)) := Lib.hid fun k W hk h ht => firstFair_any m k hm1 hm6 hk a c zs W h ht hx hset
    have HT := Lib.hid hT
    cases hab : ablB zs
    · have HAF := Lib.hid hab
      clear hf hset hz64 hT hab
      go_enter Tryd.func27, Tryd.ntmps27
      go_wp2_with fail
      refine (implFamilyIn_any _ _ _ zs _ (HA.out.mono (by simp)) hx).mono ?_
      rintro e w1 ⟨rfl, hb⟩
      rw [HF.out]
      have b0 : HasBlk w1 w.heap.size #[.int .i64 (m : Int), .slice a zs.length c] 25 := (hb.block _ (by simp)).trans (alloc_new w _)
      have x0 := (blk_cell b0 0).trans (cell2_0 _ _)
      have x1 := (blk_cell b0 1).trans (cell2_1 _ _)
      have HB := Lib.hid (HB0.out.trans (hb.mono (by simp)))
      have HI1 := Lib.hid ((HA0.out.below HB.out).mono HB.out.size)
      clear hb b0
      go_wp2_with fail
      refine (HAB.out _ HI1.out).mono ?_
      rintro e w2 ⟨rfl, hb2⟩
      rw [HAF.out]
      have HB2 := Lib.hid (HB.out.trans (hb2.mono HB.out.size))
      clear hb2
      go_wp2
      go_ret2
      exact ⟨by rw [HZ.out, HO.out, HAF.out]; rfl, HB2.out⟩
    · have HAF := Lib.hid hab
      have HFULL := Lib.hid (cnt_full hm6 hset hab)
      have hm1I : (1 : Int) ≤ (m : Int) := by omega
      have hm6I : (m : Int) ≤ 6 := by omega
      clear hf hset hz64 hT hab
      go_enter Tryd.func27, Tryd.ntmps27
      go_wp2_with fail
      refine (implFamilyIn_any _ _ _ zs _ (HA.out.mono (by simp)) hx).mono ?_
      rintro e w1 ⟨rfl, hb⟩
      rw [HF.out]
      have b0 : HasBlk w1 w.heap.size #[.int .i64 (m : Int), .slice a zs.length c] 25 := (hb.block _ (by simp)).trans (alloc_new w _)
      have hz1 : w.heap.size < w1.heap.size := lt_of_some b0
      have x0 := (blk_cell b0 0).trans (cell2_0 _ _)
      have x1 := (blk_cell b0 1).trans (cell2_1 _ _)
      have HB := Lib.hid (HB0.out.trans (hb.mono (by simp)))
      have HI1 := Lib.hid ((HA0.out.below HB.out).mono HB.out.size)
      have HT1 := Lib.hid (HT.out.below HB.out HT.out.lt)
      have HKEEP : Hid (∀ W, Below w1.heap.size w1 W → W.cell? ⟨w.heap.size, 0, none⟩ = some (.int .i64 (m : Int)) ∧ W.cell? ⟨w.heap.size, 1, none⟩ = some (.slice a zs.length c)) := Lib.hid fun W hW =>
        ⟨(hW.cell (p := ⟨w.heap.size, 0, none⟩) hz1).trans ((blk_cell b0 0).trans (cell2_0 _ _)), (hW.cell (p := ⟨w.heap.size, 1, none⟩) hz1).trans ((blk_cell b0 1).trans (cell2_1 _ _))⟩
      clear hb b0
      go_wp2_with fail
      refine (HAB.out _ HI1.out).mono ?_
      rintro e w2 ⟨rfl, hb2⟩
      rw [HAF.out]
      have HR0 : Hid ((∀ j, j < 0 → cntCM m zs (j + 1) = 0) ∧ Below w1.heap.size w1 w2) := Lib.hid ⟨fun j h => by omega, hb2⟩
      clear hb2 x0 x1
      go_wp2
      go_loopw [4, 5, 6] (fun s4 _ _ wr => ∃ k : Nat, k + 1 ≤ m ∧ s4 = .int .i64 ((k : Int) + 1) ∧ Hid ((∀ j, j < k → cntCM m zs (j + 1) = 0) ∧ Below w1.heap.size w1 wr)) (fun s4 _ _ _ => m - (intOf s4).toNat)
      case atStart => exact ⟨0, by omega, rfl, HR0⟩
      case round =>
        obtain ⟨k, hk, rfl, HS⟩ := hrel
        clear HR0
        obtain ⟨x0, x1⟩ := HKEEP.out _ HS.out.2
        have hk0 : (0 : Int) ≤ (k : Int) := by omega
        have hk6 : (k : Int) + 1 ≤ 6 := by omega
        by_cases hlt : k + 1 < m
        · have hlI : (k : Int) + 1 < (m : Int) := by omega
          have hff := HFF.out (k + 1) wr (by omega) (HI1.out.step HS.out.2) (HT1.out.step HS.out.2)
          rw [firstC_cnt, show (((k + 1 : Nat) : Int)) = (k : Int) + 1 from by omega] at hff
          cases hd : decide (0 < cntCM m zs (k + 1))
          · rw [hd] at hff
            have HX := Lib.hid hff
            have hcz : cntCM m zs (k + 1) = 0 := by rw [decide_eq_false_iff_not] at hd; omega
            have HCZ := Lib.hid hcz
            clear hff hd hcz
            go_wp2_with fail
            refine HX.out.mono ?_
            rintro e w3 ⟨a3, c3, rfl, -, hb3⟩
            have HR : Hid ((∀ j, j < k + 1 → cntCM m zs (j + 1) = 0) ∧ Below w1.heap.size w1 w3) := Lib.hid ⟨fun j hj => by
              rcases Nat.lt_succ_iff_lt_or_eq.1 hj with h | rfl
              · exact HS.out.1 j h
              · exact HCZ.out, HS.out.2.trans (hb3.mono HS.out.2.size)⟩
            clear hb3 x0 x1
            go_wp2
            go_roundw
            case rel => exact ⟨k + 1, by omega, by go_num, HR⟩
            case measure => simp [intOf]; omega
          · rw [hd] at hff
            have HX := Lib.hid hff
            have HL : Hid (leastC m zs = k + 1) := Lib.hid (leastC_is (by omega) HS.out.1 (by rwa [decide_eq_true_iff] at hd))
            clear hff hd
            go_wp2_with fail
            refine HX.out.mono ?_
            rintro e w3 ⟨a3, c3, rfl, -, hb3⟩
            have HR := Lib.hid (HB.out.trans ((HS.out.2.trans (hb3.mono HS.out.2.size)).mono HB.out.size))
            clear hb3 x0 x1
            go_wp2
            go_ret2
            exact ⟨by rw [HZ.out, HO.out, HAF.out, HL.out]; rfl, HR.out⟩
        · obtain rfl : m = k + 1 := by omega
          have HL : Hid (leastC (k + 1) zs = k + 1) := Lib.hid (leastC_is (by omega) HS.out.1 HFULL.out)
          have HR := Lib.hid (HB.out.trans (HS.out.2.mono HB.out.size))
          have e1 : (((k + 1 : Nat) : Int)) = (k : Int) + 1 := by omega
          rw [e1] at x0
          go_wp2
          go_ret2
          exact ⟨by rw [HZ.out, HO.out, HAF.out, HL.out]; rfl, HR.out⟩

set_option maxRecDepth 100000 in
set_option maxHeartbeats 2000000 in
theorem specColourLeast_any (m : Int) (a : Option Addr) (c : Nat) (zs : List Int) (w : World) (ha : Ints w w.heap.size a zs) (hx : zs.length ≤ 1048576) :
    Calls Tryd.prog 28 #[.agg #[.int .i64 m, .slice a zs.length c]] w (RetIB w (outCL m zs) (okCL m zs)) := by
  have HB0 := Lib.hid (below1 w (.cells #[.int .i64 m, .slice a zs.length c] 25))
  have HA := Lib.hid (ha.below HB0.out)
  clear ha
  cases hf : famIn m zs
  · have HF := Lib.hid hf
    have HZ : Hid (outCL m zs = 0) := Lib.hid (by unfold outCL; rw [hf]; rfl)
    have HO : Hid (okCL m zs = false) := Lib.hid (by unfold okCL; rw [hf]; rfl)
    clear hf
    go_enter Tryd.func28, Tryd.ntmps28
    go_wp2_with fail
    refine (specFamilyIn_any _ _ _ zs _ (HA.out.mono (by simp)) hx).mono ?_
    rintro e w1 ⟨rfl, hb⟩
    rw [HF.out]
    have HB := Lib.hid (HB0.out.trans (hb.mono (by simp)))
    clear hb
    go_wp2
    go_ret2
    exact ⟨by rw [HZ.out, HO.out]; rfl, HB.out⟩
  · have HF := Lib.hid hf
    obtain ⟨m, rfl, hm1, hm6, hset, hl8⟩ := fam_nat2 hf
    have HZ : Hid (outCL (m : Int) zs = if ablB zs then ((leastC m zs : Nat) : Int) else 0) := Lib.hid (by unfold outCL; rw [hf]; rfl)
    have HO : Hid (okCL (m : Int) zs = ablB zs) := Lib.hid (by unfold okCL; rw [hf]; rfl)
    have hz64 : ∀ z ∈ zs, 0 ≤ z ∧ z.toNat < 64 := fun z h => ⟨(hset z h).1, p64 hm6 (hset z h).2⟩
    have HMA : Hid (∀ (k : Nat) W, k ≤ 6 → Ints W W.heap.size a zs → Calls Tryd.prog 72 #[.agg #[.int .i64 (m : Int), .slice a zs.length c], .int .i64 (k : Int)] W fun e w' => e = .returned (.int .i64 ((cntCM m zs k : Nat) : Int)) ∧ Below W.heap.size W w') := Lib.hid fun k W hk h => l7Many_any m k hm1 hm6 hk a c zs W h hx hset
    have HZ64 := Lib.hid hz64
    have HFULL : Hid (ablB zs = true → 0 < cntCM m zs m) := Lib.hid fun h => cnt_full hm6 hset h
    obtain ⟨n, hn⟩ : ∃ n, n = zs.length := ⟨_, rfl⟩
    have HN := Lib.hid hn
    have HFI := Lib.hid (specFamilyIn_any (m : Int) a c zs _ (HA.out.mono (show w.heap.size ≤ (w.alloc (.cells #[.int .i64 (m : Int), .slice a zs.length c] 25)).heap.size by simp)) hx)
    rw [← hn] at HFI HB0 HA HMA hx ⊢
    clear hf hset hz64 hn
    go_enter Tryd.func28, Tryd.ntmps28
    go_wp2_with fail
    refine HFI.out.mono ?_
    rintro e w1 ⟨rfl, hb⟩
    rw [HF.out]
    have b0 : HasBlk w1 w.heap.size #[.int .i64 (m : Int), .slice a n c] 25 := (hb.block _ (by simp)).trans (alloc_new w _)
    have hz1 : w.heap.size < w1.heap.size := lt_of_some b0
    have HB := Lib.hid (HB0.out.trans (hb.mono (by simp)))
    have HI1 := Lib.hid ((HA.out.below (hb.mono (by simp))).mono (show w.heap.size ≤ w1.heap.size by omega))
    have x0 := (blk_cell b0 0).trans (cell2_0 _ _)
    have x1 := (blk_cell b0 1).trans (cell2_1 _ _)
    have HKEEP : Hid (∀ W, Below w1.heap.size w1 W → W.cell? ⟨w.heap.size, 0, none⟩ = some (.int .i64 (m : Int)) ∧ W.cell? ⟨w.heap.size, 1, none⟩ = some (.slice a n c)) := Lib.hid fun W hW =>
      ⟨(hW.cell (p := ⟨w.heap.size, 0, none⟩) hz1).trans ((blk_cell b0 0).trans (cell2_0 _ _)), (hW.cell (p := ⟨w.heap.size, 1, none⟩) hz1).trans ((blk_cell b0 1).trans (cell2_1 _ _))⟩
    clear hb b0
    go_wp2
    go_loop [4] (fun s4 => ∃ i : Nat, i ≤ n ∧ s4 = .int .i64 (i : Int) ∧ Hid (∀ j, j < i → ablZ (zs[j]?.getD 0) = true)) (fun s4 => n - (intOf s4).toNat)
    case atStart => exact ⟨0, Nat.zero_le _, rfl, Lib.hid fun j hj => by omega⟩
    case round =>
      obtain ⟨i, hi, rfl, HE⟩ := hrel
      by_cases hlt : i < n
      · have hiI : (i : Int) < (n : Int) := by omega
        have hi0 : (0 : Int) ≤ (i : Int) := by omega
        obtain ⟨ba, oa, rfl, hba, hca⟩ := HI1.out.at_ (k := i) (by rw [← HN.out]; exact hlt)
        have hin := at_in (xs := zs) (k := i) (by rw [← HN.out]; exact hlt)
        obtain ⟨z, hzz⟩ : ∃ z : Nat, zs[i]?.getD 0 = (z : Int) := ⟨(zs[i]?.getD 0).toNat, by have := (HZ64.out _ hin).1; omega⟩
        have hzn := (HZ64.out _ hin).2
        rw [hzz, Int.toNat_natCast] at hzn
        have HSI := Lib.hid (fun W => l1SizeW_any z W (by omega))
        have HZZ := Lib.hid hzz
        rw [hzz] at hca
        have HAZ : Hid (ablZ (z : Int) = decide (2 ≤ cntK 8 z)) := Lib.hid rfl
        obtain ⟨K, hK⟩ : ∃ K, K = cntK 8 z := ⟨_, rfl⟩
        rw [← hK] at HSI HAZ
        clear hzz hin hK
        by_cases hk2 : (K : Int) < 2
        · have HNO : Hid (ablB zs = false) := Lib.hid (abl_no (k := i) (by rw [← HN.out]; exact hlt) (by rw [HZZ.out, HAZ.out]; simp; omega))
          go_wp2_with fail
          refine (HSI.out _).mono ?_
          rintro e w2 ⟨rfl, rfl⟩
          go_wp2
          go_ret2
          exact ⟨by rw [HZ.out, HO.out, HNO.out]; rfl, HB.out⟩
        · have HYES : Hid (∀ j, j < i + 1 → ablZ (zs[j]?.getD 0) = true) := Lib.hid fun j hj => by
            rcases Nat.lt_succ_iff_lt_or_eq.1 hj with h | rfl
            · exact HE.out j h
            · rw [HZZ.out, HAZ.out]; simp; omega
          have hk2' : (2 : Int) ≤ (K : Int) := by omega
          go_wp2_with fail
          refine (HSI.out _).mono ?_
          rintro e w2 ⟨rfl, rfl⟩
          go_wp2
          go_round
          case rel => exact ⟨i + 1, by omega, by go_num, HYES⟩
          case measure => simp [intOf]; omega
      · obtain rfl : i = n := by omega
        have hab : ablB zs = true := abl_yes (by rw [← HN.out]; exact HE.out)
        have HAF := Lib.hid hab
        have HF2 := Lib.hid (HFULL.out hab)
        have HR0 : Hid ((∀ j, j < 0 → cntCM m zs (j + 1) = 0) ∧ Below w1.heap.size w1 w1) := Lib.hid ⟨fun j h => by omega, Below.refl _ _⟩
        clear hab HE
        go_wp2
        clear x0 x1
        go_loopw [5] (fun s5 wr => ∃ k : Nat, k + 1 ≤ m ∧ s5 = .int .i64 ((k : Int) + 1) ∧ Hid ((∀ j, j < k → cntCM m zs (j + 1) = 0) ∧ Below w1.heap.size w1 wr)) (fun s5 _ => m + 1 - (intOf s5).toNat)
        case atStart => exact ⟨0, by omega, rfl, HR0⟩
        case round =>
          obtain ⟨k, hk, rfl, HS⟩ := hrel
          clear HR0
          obtain ⟨x0, x1⟩ := HKEEP.out _ HS.out.2
          have hk0 : (0 : Int) ≤ (k : Int) := by omega
          have hk6 : (k : Int) + 1 ≤ 6 := by omega
          have hma := HMA.out (k + 1) wr (by omega) (HI1.out.step HS.out.2)
          rw [show (((k + 1 : Nat) : Int)) = (k : Int) + 1 from by omega] at hma
          have HC2 : Hid (cntCM m zs (k + 1) = 0 → k + 1 < m) := Lib.hid fun h => by
            rcases Nat.lt_or_ge (k + 1) m with h1 | h1
            · exact h1
            · obtain rfl : m = k + 1 := by omega
              have := HF2.out
              omega
          obtain ⟨C, hC⟩ : ∃ C, C = cntCM m zs (k + 1) := ⟨_, rfl⟩
          have HC := Lib.hid hC
          have hCl : C ≤ 46656 := by rw [hC]; exact Nat.le_trans (cntCM_le m zs (k + 1)) (pow_le6 (by omega) hm6)
          rw [← hC] at hma
          have HX := Lib.hid hma
          clear hma hC
          by_cases hc0 : (C : Int) = 0
          · obtain rfl : C = 0 := by omega
            have hkm := HC2.out HC.out.symm
            clear hc0
            go_wp2_with fail
            refine HX.out.mono ?_
            rintro e w3 ⟨rfl, hb3⟩
            have HR : Hid ((∀ j, j < k + 1 → cntCM m zs (j + 1) = 0) ∧ Below w1.heap.size w1 w3) := Lib.hid ⟨fun j hj => by
              rcases Nat.lt_succ_iff_lt_or_eq.1 hj with h | rfl
              · exact HS.out.1 j h
              · exact HC.out.symm, HS.out.2.trans (hb3.mono HS.out.2.size)⟩
            clear hb3 x0 x1
            go_wp2
            go_roundw
            case rel => exact ⟨k + 1, by omega, by go_num, HR⟩
            case measure => simp [intOf]; omega
          · have HL : Hid (leastC m zs = k + 1) := Lib.hid (leastC_is (by omega) HS.out.1 (by rw [← HC.out]; omega))
            have hC1 : (1 : Int) ≤ (C : Int) := by omega
            go_wp2_with fail
            refine HX.out.mono ?_
            rintro e w3 ⟨rfl, hb3⟩
            have HR := Lib.hid (HB.out.trans ((HS.out.2.trans (hb3.mono HS.out.2.size)).mono HB.out.size))
            clear hb3 x0 x1
            go_wp2
            go_ret2
            exact ⟨by rw [HZ.out, HO.out, HAF.out, HL.out]; rfl, HR.out⟩

end Go.Proofs.YtacglafoahmcnaaDoor

/- It is proved how the greatest set of clubs that meet, stars and packs compare, and what the dual of a family with one for all is; conditions: those of each statement. -/
namespace Go.Proofs.YtacglafoahmcnaaDoor
open Go.RowKit Go.Shelf

theorem count_bit_fin : ∀ s : Fin 64, ∀ v : Fin 6, (mem s.val).count v.val = if s.val.testBit v.val then 1 else 0 := by decide +kernel
end Go.Proofs.YtacglafoahmcnaaDoor

/- It is proved that the orbits of a family's own names divide its members, have members of one degree, and sizes that divide the number of own names; conditions: those of each statement. -/
namespace Go.Proofs.YtacglafoahmcnaaDoor
open Go.RowKit

/-! ### orbits as sets -/
/-! ### sizes -/
/-! ### degrees -/
theorem count_bit {s v : Nat} (hs : s < 64) (hv : v < 6) : (mem s).count v = if s.testBit v then 1 else 0 := count_bit_fin ⟨s, hs⟩ ⟨v, hv⟩
theorem deg_countP {v : Nat} (hv : v < 6) : ∀ (zs : List Int), (∀ z ∈ zs, z.toNat < 64) → (allMem zs).count v = zs.countP fun z => z.toNat.testBit v
  | [], _ => by simp [allMem]
  | z :: zs, h => by
    rw [allMem_cons, List.count_append, deg_countP hv zs (fun x hx => h x (by simp [hx])), count_bit (h z (by simp)) hv, List.countP_cons, Nat.add_comm]

/-! ### all at once -/
end Go.Proofs.YtacglafoahmcnaaDoor

/- It is proved what the method mapped returns, by which closure it may be called; conditions: those of the statement. -/
namespace Go.Proofs.YtacglafoahmcnaaDoor
open Go.RowKit Go.Shelf

attribute [local go_sem] Oper.semAt_some

/-- The clubs with their places, behind what is known of them. -/
def fstOf {P : Nat × Int → Prop} (ys : List { p // P p }) : List (Nat × Int) := ys.map (·.1)

theorem fstOf_snoc {P : Nat × Int → Prop} (ys : List { p // P p }) (y : { p // P p }) : fstOf (ys ++ [y]) = fstOf ys ++ [y.1] := by simp [fstOf]
theorem fstOf_length {P : Nat × Int → Prop} (ys : List { p // P p }) : (fstOf ys).length = ys.length := by simp [fstOf]
end Go.Proofs.YtacglafoahmcnaaDoor
