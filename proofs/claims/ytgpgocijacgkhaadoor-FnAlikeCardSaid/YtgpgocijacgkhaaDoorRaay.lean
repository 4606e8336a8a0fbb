/- It is proved how sums of degrees, sizes, unions and meetings of clubs count their members; conditions: those of each statement. -/
import Derived.Test.YtgpgocijacgkhaaDoorRows
import Derived.WalkKit
import Derived.WalkSpells
import Derived.ProofKit
import Derived.OpenShut
import Derived.ShutString
import Derived.ChangeOld
import Derived.Below
import Derived.Deep.RegionHeld3
import Derived.Deep.QuietTactic
import Derived.BigQuiet
import Derived.Lib.Hide
import Derived.Lib.SmallJoins
import Derived.Outline
import Derived.Laws.MakeOwn
import Derived.Laws.OwnMore
import Derived.IntWalk
import Derived.RangeFuncNested
import Derived.RangeFuncBound
import Derived.RangeFuncCalls
import Derived.RangeFuncLeaves
import Derived.RangeFuncBox
import Derived.Shelf.Abstract
import Derived.Shelf.RegionOpen
import Derived.OwnWalkIn
import Derived.TacticsInMore
import Derived.LoopNIn
import Derived.LoopIn
import Derived.Maps.AppendAt
import Derived.Deep.AppendLies
import Derived.OwnWalk
import Derived.StillTail
import Derived.StillTactics
import Derived.OrdersIn
import Derived.TacticsIn
import Derived.Shelf.Spec.TrailingZeros
import Derived.StillTailTactics
import Derived.Test.YtgpgocijacgkhaaDoorRaab
import Derived.Test.YtgpgocijacgkhaaDoorRaan
import Derived.Test.YtgpgocijacgkhaaDoorRaac
import Derived.Test.YtgpgocijacgkhaaDoorTb
import Derived.Test.YtgpgocijacgkhaaDoorTc
import Derived.Test.YtgpgocijacgkhaaDoorRaae
import Derived.Test.YtgpgocijacgkhaaDoorRaar
import Derived.Deep.RegionWith
import Derived.Deep.RegionLaw
import Derived.Test.YtgpgocijacgkhaaDoorDb
import Derived.Test.YtgpgocijacgkhaaDoorRaag
import Derived.Test.YtgpgocijacgkhaaDoorRaaa
import Derived.Test.YtgpgocijacgkhaaDoorRaah
namespace Go.Proofs.YtgpgocijacgkhaaDoor
open Go.RowKit

theorem sum_ite (f : Nat → Int) (u : Nat) : ∀ k, ((List.range k).map fun v => f v + if u = v then 1 else 0).sum = ((List.range k).map f).sum + if u < k then 1 else 0
  | 0 => by simp
  | k + 1 => by
    rw [List.range_succ, List.map_append, List.map_append, List.sum_append, List.sum_append, sum_ite f u k]
    simp only [List.map_cons, List.map_nil, List.sum_cons, List.sum_nil]
    have e1 : (if u < k + 1 then (1 : Int) else 0) = (if u < k then 1 else 0) + (if u = k then 1 else 0) := by
      split <;> split <;> split <;> omega
    rw [e1]
    generalize (if u < k then (1 : Int) else 0) = p
    generalize (if u = k then (1 : Int) else 0) = q
    omega

theorem sum_deg (k : Nat) : ∀ us : List Nat, (∀ u ∈ us, u < k) → (degL k us).sum = (us.length : Int)
  | [], _ => by rw [degL_nil]; simp
  | u :: us, h => by
    have ih := sum_deg k us (fun x hx => h x (by simp [hx]))
    have hu := h u (by simp)
    have e : degL k (u :: us) = (List.range k).map fun v => ((us.count v : Nat) : Int) + if u = v then 1 else 0 := by
      unfold degL
      apply List.map_congr_left
      intro v _
      rw [List.count_cons]
      by_cases h1 : u = v
      · simp [h1]
      · simp [h1]
    rw [e, sum_ite, if_pos hu]
    rw [show ((List.range k).map fun v => ((us.count v : Nat) : Int)).sum = (degL k us).sum from rfl, ih]
    simp

set_option maxRecDepth 100000 in
theorem pop_mem_fin : ∀ s : Fin 64, pop (s.val : Int) = ((mem s.val).length : Int) := by decide +kernel

theorem pop_mem {s : Nat} (h : s < 64) : pop (s : Int) = ((mem s).length : Int) := pop_mem_fin ⟨s, h⟩
theorem allMem_cons (z : Int) (zs : List Int) : allMem (z :: zs) = mem z.toNat ++ allMem zs := by simp [allMem]
theorem sum_sizes : ∀ zs : List Int, (∀ z ∈ zs, 0 ≤ z ∧ z ≤ 63) → (zs.map pop).sum = ((allMem zs).length : Int)
  | [], _ => by simp [allMem]
  | z :: zs, h => by
    have ih := sum_sizes zs (fun x hx => h x (by simp [hx]))
    have hz := h z (by simp)
    have e := pop_mem (s := z.toNat) (by omega)
    rw [Int.toNat_of_nonneg hz.1] at e
    rw [allMem_cons, List.map_cons, List.sum_cons, ih, e, List.length_append]
    simp

theorem small63 {m : Int} {zs : List Int} (h : famIn m zs = true) : ∀ z ∈ zs, 0 ≤ z ∧ z ≤ 63 := fun z hz => by
  obtain ⟨h1, h2, h3, h4⟩ := famIn_out h
  have := h4 z hz
  have h5 : fullI m ≤ 63 := by rcases m16 h1 h2 with rfl | rfl | rfl | rfl | rfl | rfl <;> decide
  omega

theorem allMem_lt {k : Nat} {zs : List Int} (h : famIn (k : Int) zs = true) : ∀ u ∈ allMem zs, u < k := by
  intro u hu
  obtain ⟨h1, h2, h3, h4⟩ := famIn_out h
  obtain ⟨z, hz, hu⟩ := List.mem_flatMap.1 hu
  have := h4 z hz
  have hf : fullI (k : Int) = ((2 ^ k : Nat) : Int) - 1 := by simp [fullI]
  exact mem_lt k (by omega) z.toNat (by omega) u hu

theorem sums_same {m : Int} {zs : List Int} (h : famIn m zs = true) : (famDeg m zs).sum = (zs.map pop).sum := by
  obtain ⟨h1, h2, h3, h4⟩ := famIn_out h
  obtain ⟨k, rfl⟩ : ∃ k : Nat, m = (k : Int) := ⟨m.toNat, by omega⟩
  rw [famDeg, if_pos h, Int.toNat_natCast, sum_deg k _ (allMem_lt h), sum_sizes zs (small63 h)]

set_option maxRecDepth 100000 in
theorem mem_one_fin : ∀ s : Fin 64, ∀ v : Fin 6, (mem s.val).count v.val = if s.val.testBit v.val then 1 else 0 := by decide +kernel

theorem mem_one {s v : Nat} (hs : s < 64) (hv : v < 6) : (mem s).count v = if s.testBit v then 1 else 0 := mem_one_fin ⟨s, hs⟩ ⟨v, hv⟩
/-- A club has a member. -/
def hasM (v : Nat) (z : Int) : Bool := z.toNat.testBit v

theorem count_all {v : Nat} (hv : v < 6) : ∀ zs : List Int, (∀ z ∈ zs, 0 ≤ z ∧ z ≤ 63) → (allMem zs).count v = zs.countP (hasM v)
  | [], _ => by simp [allMem]
  | z :: zs, h => by
    have ih := count_all hv zs (fun x hx => h x (by simp [hx]))
    have hz := h z (by simp)
    rw [allMem_cons, List.count_append, ih, mem_one (by omega) hv, List.countP_cons]
    unfold hasM
    omega

theorem range_countP (P : Int → Bool) (zs : List Int) : ∀ m, ((List.range m).filter fun i => decide (i < zs.length) && P (zs[i]?.getD 0)).length = (zs.take m).countP P
  | 0 => by simp
  | m + 1 => by
    rw [List.range_succ, List.filter_append, List.length_append, range_countP P zs m]
    by_cases h : m < zs.length
    · rw [List.take_succ_eq_append_getElem h, List.countP_append]
      simp [h, List.filter_cons, List.countP_cons]
      split <;> simp
    · rw [List.take_of_length_le (by omega), List.take_of_length_le (by omega)]
      simp [h]

theorem dual_sizes {k : Nat} {zs : List Int} (h : famIn (k : Int) zs = true) (h6 : zs.length ≤ 6) : (dualL k (prsP (pairs zs zs.length))).map pop = degL k (allMem zs) := by
  obtain ⟨h1, h2, h3, h4⟩ := famIn_out h
  unfold dualL degL
  rw [List.map_map]
  apply List.map_congr_left
  intro v hv
  have hvk : v < k := List.mem_range.1 hv
  have hs : dualBits (prsP (pairs zs zs.length)) v < 64 := Nat.lt_of_lt_of_le (dualBits_pow zs zs.length v) (Nat.pow_le_pow_right (by decide) h6 : 2 ^ zs.length ≤ 2 ^ 6)
  simp only [Function.comp]
  rw [pop_mem hs, count_all (by omega) zs (small63 h)]
  have e := range_countP (hasM v) zs 6
  rw [List.take_of_length_le h6] at e
  rw [← e]
  unfold mem
  congr 2
  apply List.filter_congr
  intro i _
  rw [dualBits_test, Bool.eq_iff_iff]
  simp only [decide_eq_true_eq, Bool.and_eq_true, prs_mem, mem_mem, hasM]
  constructor
  · rintro ⟨h1, -, h2⟩; exact ⟨h1, h2⟩
  · rintro ⟨h1, h2⟩; exact ⟨h1, by omega, h2⟩

end Go.Proofs.YtgpgocijacgkhaaDoor

/- It is proved that a drawn family and a drawn set are the call's own; conditions: those of each statement. -/
namespace Go.Proofs.YtgpgocijacgkhaaDoor
open Go.RowKit

theorem DS.belowR {w W : World} {R : Nat} {b : Option Addr} {n cap P B : Nat} (h : DS w R b n cap P W) (hB : B ≤ R) (hs : B ≤ w.heap.size) : Below B w W :=
  (Below.refl B w).grown h.gr hs (fun g e => by injection e with e; omega)

end Go.Proofs.YtgpgocijacgkhaaDoor

/- It is proved what the laws' total returns, and what is drawn for FamilyIn; conditions: those of each statement. -/
namespace Go.Proofs.YtgpgocijacgkhaaDoor
open Go.RowKit

set_option maxRecDepth 100000 in
set_option maxHeartbeats 400000 in
theorem total_any (a : Option Addr) (c : Nat) (zs : List Int) (w : World) (ha : Ints w w.heap.size a zs) (hx : zs.length ≤ 1000) (hz : ∀ z ∈ zs, 0 ≤ z ∧ z ≤ 1000) :
    Calls Tryd.prog 15 #[.slice a zs.length c] w fun e w' => e = .returned (.int .i64 zs.sum) ∧ Below w.heap.size w w' := by
  obtain ⟨n, hn⟩ : ∃ n, n = zs.length := ⟨_, rfl⟩
  have HN := Lib.hid hn
  rw [← hn] at hx ⊢
  have HZ := Lib.hid hz
  clear hn hz
  go_enter Tryd.func15, Tryd.ntmps15
  go_wp2
  go_loop [3, 4] (fun s i => ∃ (k : Nat) (t : Int), k ≤ n ∧ i = .int .i64 (k : Int) ∧ s = .int .i64 t ∧ t = (zs.take k).sum ∧ 0 ≤ t ∧ t ≤ 1000 * (k : Int)) (fun _ i => n - (intOf i).toNat)
  case atStart => exact ⟨0, 0, Nat.zero_le _, rfl, rfl, by simp, by omega, by omega⟩
  case round =>
    obtain ⟨k, t, hk, rfl, rfl, ht, h0, h1⟩ := hrel
    have HT := Lib.hid ht
    clear ht
    by_cases hlt : k < n
    · obtain ⟨b, off, rfl, hb, hc⟩ := ha.at_ (k := k) (by rw [← HN.out]; exact hlt)
      have hkz : k < zs.length := by rw [← HN.out]; exact hlt
      have hzz := HZ.out zs[k] (List.getElem_mem hkz)
      obtain ⟨z, hz⟩ : ∃ z, z = zs[k]?.getD 0 := ⟨_, rfl⟩
      have ez : zs[k] = z := by rw [hz]; simp [hkz]
      rw [← hz] at hc
      rw [ez] at hzz
      obtain ⟨z0, z1⟩ := hzz
      have HS : Hid ((zs.take (k + 1)).sum = t + z) := Lib.hid (by rw [List.take_succ_eq_append_getElem hkz, List.sum_append, ← HT.out, ez]; simp)
      clear hz ez
      go_wp2
      go_round
      case rel => exact ⟨k + 1, t + z, by omega, by go_num, rfl, HS.out.symm, by omega, by omega⟩
      case measure => simp [intOf]; omega
    · have HS : Hid (t = zs.sum) := Lib.hid (by rw [HT.out, List.take_of_length_le (by have := HN.out; omega)])
      go_wp2
      go_ret
      exact ⟨ret_int HS.out, Below.refl _ _⟩

/-- A family of the call's own, ten clubs at most. -/
def DrawnTen (w : World) (e : Ending) (W : World) : Prop :=
  ∃ (m : Int) (a : Option Addr) (zs : List Int) (c : Nat), e = .returned (.agg #[.int .i64 m, .slice a zs.length c]) ∧ zs.length ≤ 10 ∧ OwnI W w.heap.size (.slice a zs.length c) zs ∧ Below w.heap.size w W

set_option maxRecDepth 100000 in
set_option maxHeartbeats 4000000 in
theorem drawIn_any (a : Option Addr) (n cap : Nat) (w : World) (hb : Bys w w.heap.size a n) (hn : n ≤ 1048576) (hc : n ≤ cap) (hc2 : cap ≤ 9223372036854775807) :
    Calls Tryd.prog 10 #[.slice a n cap] w (DrawnTen w) := by
  have ha : n ≠ 0 → ∃ g off, a = some ⟨g, off, none⟩ := fun h => by obtain ⟨g, off, e, _⟩ := hb.resolve_left h; exact ⟨g, off, e⟩
  have HB := Lib.hid hb
  clear hb
  go_enter Tryd.func10, Tryd.ntmps10
  go_wp2_with fail
  refine (openD_any a n cap _ hn hc hc2 ha).mono ?_
  rintro e w1 ⟨k, hk, rfl, rfl⟩
  have b1 := below2 w (.cells #[.int .i64 0, .slice none 0 0] 25) (.cells #[.slice a k cap, .int .i64 0] 87)
  have HD1 : Hid (DS ((w.alloc (.cells #[.int .i64 0, .slice none 0 0] 25)).alloc (.cells #[.slice a k cap, .int .i64 0] 87)) (w.heap.size + 1) a k cap 0 ((w.alloc (.cells #[.int .i64 0, .slice none 0 0] 25)).alloc (.cells #[.slice a k cap, .int .i64 0] 87))) := Lib.hid ⟨⟨0, Nat.le_refl _, alloc2_1 w _ _⟩, World.grownBy.refl _ _⟩
  have HB1 := Lib.hid ((HB.out.below b1).fewer (B' := w.heap.size + 1) (by omega) hk)
  have HX : Hid (HasBlk ((w.alloc (.cells #[.int .i64 0, .slice none 0 0] 25)).alloc (.cells #[.slice a k cap, .int .i64 0] 87)) w.heap.size #[.int .i64 0, .slice none 0 0] 25) := Lib.hid (alloc2_0 w _ _)
  have HBL := Lib.hid b1
  clear b1
  go_wp2_with fail
  refine (someD_any 6 9 6 9 rfl rfl (by decide) (by decide) (by decide) (w.heap.size + 1) a k cap 0 _ HD1.out HB1.out (by simp) (by omega) (by omega)).mono ?_
  rintro e w2 ⟨m, a2, zs, c2, rfl, ⟨hl, -, -⟩, ho, D2⟩
  have q0 : HasBlk w2 w.heap.size #[.int .i64 0, .slice none 0 0] 25 := HX.out.kept D2.gr (by simp)
  have hs2 : w.heap.size + 1 < w2.heap.size := by have := D2.gr.size; simp at this; omega
  have HRd : Hid (∃ p, p ≤ 200 ∧ Rd w2 (w.heap.size + 1) a k cap p) := Lib.hid (by obtain ⟨p, hp, h⟩ := D2.rd; exact ⟨p, by omega, h⟩)
  have HBy2 : Hid (Bys w2 (w.heap.size + 1) a k) := Lib.hid (HB1.out.kept (by simp) D2.gr)
  have HO : Hid (OwnI w2 (w.heap.size + 2) (.slice a2 zs.length c2) zs) := Lib.hid (own_mono ho (by simp))
  have hgb : ∀ g, (Value.slice a2 zs.length c2).ownBlock = some g → g < w2.heap.size := fun g e => (World.ownsRow.lt ho g e).2
  have HBW := Lib.hid (HBL.out.trans ((Below.refl w.heap.size _).grown D2.gr (by simp; omega) (fun g e => by injection e; omega)))
  have HD3 : Hid (DS (w2.alloc (.cells #[.int .i64 m, .slice a2 zs.length c2] 25)) (w.heap.size + 1) a k cap 200 (w2.alloc (.cells #[.int .i64 m, .slice a2 zs.length c2] 25))) := Lib.hid (by obtain ⟨p, hp, h⟩ := HRd.out; exact ⟨⟨p, hp, HasBlk.alloc h _⟩, World.grownBy.refl _ _⟩)
  have HBy3 : Hid (Bys (w2.alloc (.cells #[.int .i64 m, .slice a2 zs.length c2] 25)) (w.heap.size + 1) a k) := Lib.hid (HBy2.out.below ((below1 w2 _).mono (by omega)))
  have HX3 : Hid (HasBlk (w2.alloc (.cells #[.int .i64 m, .slice a2 zs.length c2] 25)) w2.heap.size #[.int .i64 m, .slice a2 zs.length c2] 25) := Lib.hid (alloc_new w2 _)
  have HQ3 : Hid (HasBlk (w2.alloc (.cells #[.int .i64 m, .slice a2 zs.length c2] 25)) w.heap.size #[.int .i64 0, .slice none 0 0] 25) := Lib.hid (HasBlk.alloc q0 _)
  have HO3 : Hid (OwnI (w2.alloc (.cells #[.int .i64 m, .slice a2 zs.length c2] 25)) (w.heap.size + 2) (.slice a2 zs.length c2) zs) := Lib.hid (World.ownsRow.alloc HO.out _)
  have HB3 := Lib.hid (HBW.out.trans ((below1 w2 (.cells #[.int .i64 m, .slice a2 zs.length c2] 25)).mono HBW.out.size))
  have hR3 : w.heap.size + 1 < (w2.alloc (.cells #[.int .i64 m, .slice a2 zs.length c2] 25)).heap.size := by simp; omega
  clear ho D2 q0 HX HD1 HB1 HBL HRd HBy2 HO HBW
  go_wp2_with fail
  refine (pickX HD3.out HBy3.out hR3 (by omega) (by omega) _).mono ?_
  rintro e w4 ⟨r4, rfl, h4, D4, g4⟩
  have q4 := blk_grown HX3.out g4 (by omega)
  have p4 := HasBlk.kept HQ3.out g4 (fun e => by injection e; omega)
  have hs4 : w2.heap.size < w4.heap.size := lt_of_some q4
  have x0 := (blk_cell q4 0).trans (cell2_0 _ _)
  have x1 := (blk_cell q4 1).trans (cell2_1 _ _)
  have xf := blk_frozen q4 0
  have d0 := (blk_cell p4 0).trans (cell2_0 _ _)
  have d1 := (blk_cell p4 1).trans (cell2_1 _ _)
  have e0 := blk_frozen p4 0
  have e1 := blk_frozen p4 1
  have HO4 : Hid (OwnI w4 (w.heap.size + 2) (.slice a2 zs.length c2) zs) := Lib.hid (own_grown HO3.out g4 (by omega))
  have HB4 := Lib.hid (HB3.out.trans ((Below.refl w.heap.size _).grown g4 (by have := HB3.out.size; omega) (fun g e => by injection e; omega)))
  have hne : (Value.slice a2 zs.length c2).ownBlock ≠ some w2.heap.size := by
    intro e
    have := hgb _ e
    omega
  have HNE := Lib.hid hne
  clear hne hgb D4 g4 q4 p4 HD3 HBy3 HX3 HQ3 HO3 HB3 h4
  by_cases hr : r4 = 0
  · subst hr
    go_wp2
    refine bodyPost_ret (v := .agg #[.int .i64 7, .slice a2 zs.length c2]) (by simp [results, Tryd.results10, go_sem, d0, d1]) rfl ?_
    refine ⟨7, a2, zs, c2, rfl, by omega, ?_, ?_⟩
    · exact own_mono (ownsRow_setCell_below (ownsRow_setCell_below (ownsRow_setCell_ne (p := ⟨w2.heap.size, 0, none⟩) HO4.out HNE.out _) (a := ⟨w.heap.size, 0, none⟩) (show w.heap.size < w.heap.size + 2 by omega) _) (a := ⟨w.heap.size, 1, none⟩) (show w.heap.size < w.heap.size + 2 by omega) _) (by omega)
    · exact ((HB4.out.setCell (p := ⟨w2.heap.size, 0, none⟩) (by show w.heap.size ≤ w2.heap.size; omega) _).setCell (p := ⟨w.heap.size, 0, none⟩) (Nat.le_refl _) _).setCell (p := ⟨w.heap.size, 1, none⟩) (Nat.le_refl _) _
  · have hr2 : ((r4 : Int) == 0) = false := by simp; omega
    go_wp2
    refine bodyPost_ret (v := .agg #[.int .i64 m, .slice a2 zs.length c2]) (by simp [results, Tryd.results10, go_sem, d0, d1]) rfl ?_
    refine ⟨m, a2, zs, c2, rfl, by omega, ?_, ?_⟩
    · exact own_mono (ownsRow_setCell_below (ownsRow_setCell_below HO4.out (a := ⟨w.heap.size, 0, none⟩) (show w.heap.size < w.heap.size + 2 by omega) _) (a := ⟨w.heap.size, 1, none⟩) (show w.heap.size < w.heap.size + 2 by omega) _) (by omega)
    · exact (HB4.out.setCell (p := ⟨w.heap.size, 0, none⟩) (Nat.le_refl _) _).setCell (p := ⟨w.heap.size, 1, none⟩) (Nat.le_refl _) _

end Go.Proofs.YtgpgocijacgkhaaDoor
