/- It is proved that the call of the law FnPack returns true; conditions: those of each statement. -/
import Derived.RowKit
import Derived.Laws.CopyRow
import Derived.Lib.SlBuf
import Derived.Deep.QuietTactic
import Derived.RangeFuncNested
import Derived.RangeFuncBound
import Derived.RangeFuncCalls
import Derived.RangeFuncLeaves
import Derived.RangeFuncBox
import Derived.RangeFuncWrites
import Derived.StillTailTactics
import Derived.Maps.OwnIn
import Derived.Maps.Ext
import Derived.DeepKeys4
import Derived.MapKept
import Derived.Test.YtmojkeokkebbfaaDoorRows
import Derived.WalkKit
import Derived.WalkSpells
import Derived.ProofKit
import Derived.OpenShut
import Derived.ShutString
import Derived.ChangeOld
import Derived.Below
import Derived.Deep.RegionHeld3
import Derived.BigQuiet
import Derived.Lib.Hide
import Derived.Lib.SmallJoins
import Derived.Outline
import Derived.Laws.MakeOwn
import Derived.Laws.OwnMore
import Derived.IntWalk
import Derived.Deep.RegionLaw
import Derived.Deep.AppendLies
import Derived.Lib.AppendZeros
import Derived.Maps.AppendAt
import Derived.OwnWalk
import Derived.Lib.SlicesCompact
import Derived.Lib.OwnBridge
import Derived.OrdersIn
import Derived.TacticsIn
import Derived.Shelf.Sort.Plain
import Derived.Shelf.Slices.In.SortNone
import Derived.Shelf.Slices.CompactI
import Derived.Ground.Names2Prog
import Derived.Lib.SliceRun
import Derived.Shelf.Abstract
import Derived.Shelf.RegionOpen
import Derived.OwnWalkIn
import Derived.TacticsInMore
import Derived.LoopNIn
import Derived.LoopIn
import Derived.StillTail
import Derived.StillTactics
import Derived.Shelf.Spec.TrailingZeros
import Derived.Test.YtmojkeokkebbfaaDoorMzaa
import Derived.Test.YtmojkeokkebbfaaDoorMzad
import Derived.Test.YtmojkeokkebbfaaDoorMzab
import Derived.Test.YtmojkeokkebbfaaDoorDb
import Derived.Test.YtmojkeokkebbfaaDoorMzae
import Derived.Test.YtmojkeokkebbfaaDoorMzaf
import Derived.Test.YtmojkeokkebbfaaDoorMzao
import Derived.Test.YtmojkeokkebbfaaDoorKc
import Derived.Test.YtmojkeokkebbfaaDoorMzaw
import Derived.Test.YtmojkeokkebbfaaDoorKs
import Derived.Test.YtmojkeokkebbfaaDoorKt
import Derived.Test.YtmojkeokkebbfaaDoorLa
import Derived.Test.YtmojkeokkebbfaaDoorMzbf
import Derived.Test.YtmojkeokkebbfaaDoorMzbh
import Derived.Test.YtmojkeokkebbfaaDoorMzbi
import Derived.Test.YtmojkeokkebbfaaDoorMzam
import Derived.Lib.LaidTab
import Derived.LaidMore
import Derived.Stop.Joined
namespace Go.Proofs.YtmojkeokkebbfaaDoor
open Go.RowKit

/-- The names from the last member to the first. -/
def revT (k j : Nat) : List Int := (List.range j).map fun (i : Nat) => (k : Int) - 1 - (i : Int)

def revN (k : Nat) : List Int := revT k k
theorem revT_succ (k j : Nat) : revT k (j + 1) = revT k j ++ [(k : Int) - 1 - (j : Int)] := by simp [revT, List.range_succ]
theorem revN_len (k : Nat) : (revN k).length = k := by simp [revN, revT]
theorem rev_names_fin : ∀ k : Fin 7, namesB k.val (revN k.val) = true := by decide +kernel
theorem rev_names {k : Nat} (hk : k ≤ 6) : namesB k (revN k) = true := rev_names_fin ⟨k, by omega⟩
theorem rev_bit {k s b : Nat} (hk : k ≤ 6) (hs : s < 2 ^ k) (hb : b < k) : (called (revN k) s).testBit b = s.testBit (k - 1 - b) := by
  have h := called_bit hk (rev_names hk) hs (v := k - 1 - b) (by omega)
  have e : ((revN k)[k - 1 - b]?.getD 0).toNat = b := by
    rw [List.getElem?_eq_getElem (by rw [revN_len]; omega), Option.getD_some]
    simp only [revN, revT, List.getElem_map, List.getElem_range]
    omega
  rw [e] at h
  exact h

theorem high {k x b : Nat} (h : x < 2 ^ k) (hb : k ≤ b) : x.testBit b = false := Nat.testBit_lt_two_pow (Nat.lt_of_lt_of_le h (Nat.pow_le_pow_right (by decide) hb))
theorem rev_or {k s u : Nat} (hk : k ≤ 6) (hs : s < 2 ^ k) (hu : u < 2 ^ k) : called (revN k) (s ||| u) = called (revN k) s ||| called (revN k) u := by
  apply Nat.eq_of_testBit_eq
  intro b
  rw [Nat.testBit_or]
  by_cases hb : b < k
  · rw [rev_bit hk (Nat.or_lt_two_pow hs hu) hb, rev_bit hk hs hb, rev_bit hk hu hb, Nat.testBit_or]
  · rw [high (called_lt hk (rev_names hk) (Nat.or_lt_two_pow hs hu)) (by omega), high (called_lt hk (rev_names hk) hs) (by omega), high (called_lt hk (rev_names hk) hu) (by omega)]
    rfl

theorem rev_zero {k : Nat} (hk : k ≤ 6) : called (revN k) 0 = 0 := by
  apply Nat.eq_of_testBit_eq
  intro b
  by_cases hb : b < k
  · rw [rev_bit hk (Nat.two_pow_pos k) hb]; simp
  · rw [high (called_lt hk (rev_names hk) (Nat.two_pow_pos k)) (by omega)]; simp

theorem rev_meet {k s u : Nat} (hk : k ≤ 6) (hs : s < 2 ^ k) (hu : u < 2 ^ k) : called (revN k) s &&& called (revN k) u = 0 ↔ s &&& u = 0 := by
  rw [← Decidable.not_iff_not]
  show called (revN k) s &&& called (revN k) u ≠ 0 ↔ s &&& u ≠ 0
  rw [meet_bit, meet_bit]
  constructor
  · rintro ⟨b, h1, h2⟩
    by_cases hb : b < k
    · rw [rev_bit hk hs hb] at h1; rw [rev_bit hk hu hb] at h2; exact ⟨_, h1, h2⟩
    · rw [high (called_lt hk (rev_names hk) hs) (by omega)] at h1; cases h1
  · rintro ⟨b, h1, h2⟩
    have hb : b < k := Nat.lt_of_not_le fun hb => by rw [high hs hb] at h1; cases h1
    refine ⟨k - 1 - b, ?_, ?_⟩
    · rw [rev_bit hk hs (by omega), show k - 1 - (k - 1 - b) = b by omega]; exact h1
    · rw [rev_bit hk hu (by omega), show k - 1 - (k - 1 - b) = b by omega]; exact h2

theorem packM_rev {k : Nat} (hk : k ≤ 6) : ∀ (zs : List Int) (used : Nat), Sets k zs → used < 2 ^ k → packM (zs.map (callZ (revN k))) (called (revN k) used) = packM zs used
  | [], _, _, _ => rfl
  | z :: zs, used, hS, hu => by
    obtain ⟨h0, h1⟩ := hS z (List.mem_cons_self ..)
    have hS' : Sets k zs := fun y hy => hS y (List.mem_cons_of_mem _ hy)
    have ez : (callZ (revN k) z).toNat = called (revN k) z.toNat := by unfold callZ; rw [Int.toNat_natCast]
    rw [List.map_cons, packM, packM, ez, ← rev_or hk hu h1, packM_rev hk zs used hS' hu, packM_rev hk zs _ hS' (Nat.or_lt_two_pow hu h1)]
    simp only [rev_meet hk h1 hu]

theorem pack_facts {k : Nat} {zs : List Int} (h : famIn (k : Int) zs = true) :
    namIn (k : Int) zs (revN k) = true ∧ namM (k : Int) zs (revN k) = (k : Int) ∧ famIn (k : Int) (namZ (k : Int) zs (revN k)) = true ∧ packZ (k : Int) (namZ (k : Int) zs (revN k)) = packZ (k : Int) zs ∧
      0 ≤ packZ (k : Int) zs ∧ packZ (k : Int) zs ≤ (zs.length : Int) ∧ (packZ (k : Int) zs == 0) = ((zs.length : Int) == 0) := by
  obtain ⟨k', e, hk1, hk6, hS, -⟩ := fam_nat h
  obtain rfl : k = k' := by omega
  have hn : namIn (k : Int) zs (revN k) = true := by
    unfold namIn
    rw [h, Int.toNat_natCast, rev_names hk6]
    rfl
  obtain ⟨n1, -, n3, -⟩ := named_facts hn
  have e1 : packZ (k : Int) zs = ((packM zs 0 : Nat) : Int) := by unfold packZ; rw [h, if_pos rfl]
  have e2 : namZ (k : Int) zs (revN k) = zs.map (callZ (revN k)) := by unfold namZ; rw [hn, if_pos rfl]
  have e3 : packZ (k : Int) (namZ (k : Int) zs (revN k)) = packZ (k : Int) zs := by
    rw [e1]
    unfold packZ
    rw [n3, if_pos rfl, e2]
    have := packM_rev hk6 zs 0 hS (Nat.two_pow_pos k)
    rw [rev_zero hk6] at this
    rw [this]
  refine ⟨hn, n1, n3, e3, by omega, by rw [e1]; have := packM_le zs 0; omega, ?_⟩
  rw [e1]
  cases zs with
  | nil => rfl
  | cons z zs =>
    have : 1 ≤ packM (z :: zs) 0 := by rw [packM, if_pos (Nat.and_zero _)]; omega
    rw [show ((((packM (z :: zs) 0 : Nat)) : Int) == 0) = false by rw [beq_eq_false_iff_ne]; omega]
    symm
    rw [beq_eq_false_iff_ne, List.length_cons]
    omega

set_option maxRecDepth 100000 in
set_option maxHeartbeats 8000000 in
theorem walkFnPack (a : Option Addr) (n cap : Nat) (w : World) (hb : Bys w w.heap.size a n) (hT : Tab w) (hn : n ≤ 1048576) (hc : n ≤ cap) (hc2 : cap ≤ 9223372036854775807) :
    Calls Tryd.prog 8 #[.slice a n cap] w fun e w' => e = .returned (.bool true) ∧ Below w.heap.size w w' := by
  have HBy := Lib.hid hb
  have HT := Lib.hid hT
  clear hb hT
  go_enter Tryd.func8, Tryd.ntmps8
  go_wp2_with fail
  refine (drawCoverPack_any a n cap w HBy.out hn hc hc2).mono ?_
  rintro e w1 ⟨m, a1, zs, c1, rfl, hl, ho1, hb1⟩
  have F1 := FB.start (m := m) (c := c1) (own_ints ho1)
  have B1 := Lib.hid (hb1.trans ((below1 w1 (.cells #[.int .i64 m, .slice a1 zs.length c1] 25)).mono hb1.size))
  have hln : zs.length ≤ 1048576 := by omega
  have f_f_1 := Lib.hid F1
  clear F1 ho1 hb1
  have f_0 := f_f_1.out.x0
  have f_1 := f_f_1.out.x1
  obtain ⟨A, hA⟩ : ∃ A, A = packZ m zs := ⟨_, rfl⟩
  have HA := Lib.hid hA
  clear hA
  go_wp2_with fail
  refine (implCoverPack_any m a1 c1 zs _ f_f_1.out.ints (HT.out.below B1.out HT.out.lt) hln).mono ?_
  rw [← HA.out]
  rintro e w2 ⟨rfl, hb2⟩
  have B2 := Lib.hid (B1.out.trans (hb2.mono B1.out.size))
  have f_f_2 := Lib.hid (f_f_1.out.step hb2)
  clear hb2 B1 f_f_1
  clear f_0 f_1
  have f_0 := f_f_2.out.x0
  have f_1 := f_f_2.out.x1
  go_wp2_with fail
  refine (specCoverPack_any m a1 c1 zs _ f_f_2.out.ints hln).mono ?_
  rw [← HA.out]
  rintro e w3 ⟨rfl, hb3⟩
  have B3 := Lib.hid (B2.out.trans (hb3.mono B2.out.size))
  have f_f_3 := Lib.hid (f_f_2.out.step hb3)
  clear hb3 B2 f_f_2
  clear f_0 f_1
  have f_0 := f_f_3.out.x0
  have f_1 := f_f_3.out.x1
  cases hd : famIn m zs
  · clear hd HA
    go_wp2
    go_ret
    exact ⟨rfl, B3.out⟩
  · obtain ⟨k, rfl, hk1, hk6, -, hl8⟩ := fam_nat hd
    obtain ⟨e1, e2, e3, e4, e5, e6, e7⟩ := pack_facts hd
    rw [← HA.out] at e4 e5 e6 e7
    have HE1 := Lib.hid e1
    have HE2 := Lib.hid e2
    have HE3 := Lib.hid e3
    have HE4 := Lib.hid e4
    have HE5 := Lib.hid e5
    have HE6 := Lib.hid e6
    have HE7 := Lib.hid e7
    clear hd HA e1 e2 e3 e4 e5 e6 e7
    obtain ⟨i0, hi0, hz0, hz1, hz2⟩ := info_parts Tryd.info3
    have HO0 : Hid ((w3.alloc (.cells #[] 3)).ownsRow w3.heap.size 3 1 (.slice (some ⟨w3.heap.size, 0, none⟩) 0 0) 0 (((revT k 0)).map (Value.int .i64))) := Lib.hid (own_empty (alloc_new w3 _) (Nat.le_refl _))
    have HBA : Hid (Below w3.heap.size w3 (w3.alloc (.cells #[] 3))) := Lib.hid (below1 w3 _)
    have f_0a : (w3.alloc (.cells #[] 3)).cell? ⟨w1.heap.size, 0, none⟩ = some (.int .i64 (k : Int)) := (f_f_3.out.step HBA.out).x0
    have hk1i : (1 : Int) ≤ (k : Int) := by omega
    have hk6i : (k : Int) ≤ 6 := by omega
    go_wp2
    clear f_0a
    go_loopw [8, 9] (fun v i wr => ∃ (j : Nat) (a' : Option Addr) (c' : Nat), j ≤ k ∧ i = .int .i64 ((k : Int) - 1 - (j : Int)) ∧ v = .slice a' j c' ∧ wr.ownsRow w3.heap.size 3 1 (.slice a' j c') j ((revT k j).map (Value.int .i64)) ∧ Below w3.heap.size w3 wr) (fun _ i _ => (intOf i + 1).toNat)
    case atStart => exact ⟨0, _, _, Nat.zero_le _, by go_num, rfl, HO0.out, HBA.out⟩
    case round =>
      obtain ⟨j, a', c', hj, rfl, rfl, ho, hb⟩ := hrel
      by_cases hlt : j < k
      · have hge : (0 : Int) ≤ (k : Int) - 1 - (j : Int) := by omega
        have HB := Lib.hid hb
        have hsz := hb.size
        clear HO0 HBA hb
        go_wp2_with (at_builtin; refine wpList_append_own _ rfl _ _ 23 rfl w3.heap.size 3 i0 (.int .i64 0) 1 8 Tryd.underlying23 hi0 hz0 hz1 hz2 rfl (by decide) _ _ _ rfl (ho.alloc _) ⟨wr.heap.size, 0, none⟩ 1 1 [.int .i64 ((k : Int) - 1 - (j : Int))] rfl rfl (cell_one_new _ _ _) (by simp [Value.oneCell']) (by simp only [maxLen]; omega) (by omega) (by simp; omega) ?_; intro v' w3 hown hgrow _; obtain ⟨g', cap', rfl, _, _⟩ := World.ownsRow.form hown (by omega))
        go_roundw
        case rel => exact ⟨j + 1, _, _, by omega, by go_num, rfl, by rw [revT_succ, List.map_append]; exact hown, (HB.out.alloc (by omega) _).grown hgrow (by simp; omega) (fun g e => (World.ownsRow.lt ho g e).1)⟩
        case measure => simp [intOf]; omega
      · obtain rfl : j = k := by omega
        have hge : ¬ ((0 : Int) ≤ (j : Int) - 1 - (j : Int)) := by omega
        have HO : Hid (OwnI wr w3.heap.size (.slice a' (revN j).length c') (revN j)) := Lib.hid (by unfold OwnI; rw [revN_len]; exact ho)
        have HB := Lib.hid hb
        clear ho hb HO0 HBA
        have B3 := Lib.hid (B3.out.trans (HB.out.mono B3.out.size))
        have f_f_3 := Lib.hid (f_f_3.out.step HB.out)
        have hpn : (revN j).length = j := revN_len j
        have G := Lib.hid (own_ints HO.out)
        have f_0 := f_f_3.out.x0
        have f_1 := f_f_3.out.x1
        obtain ⟨ys, hys⟩ : ∃ ys, ys = namZ (j : Int) zs (revN j) := ⟨_, rfl⟩
        have hyl : ys.length ≤ 1048576 := by rw [hys]; exact namZ_len _ _ _ hln
        have hN := implNamed_any (j : Int) a1 a' c1 c' zs (revN j) wr f_f_3.out.ints G.out hln (by rw [hpn]; omega) (HT.out.below B3.out HT.out.lt)
        rw [HE1.out, HE2.out, ← hys, hpn] at hN
        have HN := Lib.hid hN
        have HYS := Lib.hid hys
        clear hN hys hge hlt
        go_wp2_with fail
        refine (HN.out).mono ?_
        rintro e w5 ⟨a5, c5, rfl, ho5, hb5⟩
        have F5 := FB.start (m := (j : Int)) (c := c5) (own_ints ho5)
        have hb5x := hb5.trans ((below1 w5 (.cells #[.int .i64 ((j : Int)), .slice a5 (ys).length c5] 25)).mono hb5.size)
        have B5 := Lib.hid (B3.out.trans (hb5x.mono B3.out.size))
        have f_f_5 := Lib.hid (f_f_3.out.step hb5x)
        have f_g_5 := Lib.hid F5
        clear F5 ho5 hb5 hb5x B3 f_f_3
        clear f_0 f_1
        have f_0 := f_f_5.out.x0
        have f_1 := f_f_5.out.x1
        clear HN HO G
        clear f_0 f_1
        have g_0 := f_g_5.out.x0
        have g_1 := f_g_5.out.x1
        have hP := implCoverPack_any (j : Int) a5 c5 ys _ f_g_5.out.ints (HT.out.below B5.out HT.out.lt) hyl
        rw [HYS.out, HE4.out, HE3.out, ← HYS.out] at hP
        have HP := Lib.hid hP
        clear hP
        go_wp2_with fail
        refine (HP.out).mono ?_
        rintro e w6 ⟨rfl, hb6⟩
        have B6 := Lib.hid (B5.out.trans (hb6.mono B5.out.size))
        have f_f_6 := Lib.hid (f_f_5.out.step hb6)
        have f_g_6 := Lib.hid (f_g_5.out.step hb6)
        clear hb6 B5 f_f_5 f_g_5
        clear g_0 g_1
        have f_0 := f_f_6.out.x0
        have f_1 := f_f_6.out.x1
        have e5 := HE5.out
        have e6 := HE6.out
        have e7 := HE7.out
        clear HE1 HE2 HE3 HE4 HE5 HE6 HE7 HYS HP
        go_wp2
        go_ret
        exact ⟨rfl, B6.out⟩

end Go.Proofs.YtmojkeokkebbfaaDoor

/- It is proved that what a row lists of the library's tables is what the walks ask of them; conditions: none but the row's. -/
namespace Go.Proofs.YtmojkeokkebbfaaDoor
open Go.ChangeShapes Go.WideShapes Go.ChangeAt Go.RowKit Go.Joins

def laidL : List (String × DataW Unit) := [("math/bits.deBruijn32tab", Rows.laid_math_bits_deBruijn32tab), ("math/bits.deBruijn64tab", Rows.laid_math_bits_deBruijn64tab)]
theorem Tryd.g0 : Tryd.prog.globalNamed "math/bits.deBruijn32tab" = some 0 := by kernel_rfl
theorem Tryd.g1 : Tryd.prog.globalNamed "math/bits.deBruijn64tab" = some 1 := by kernel_rfl
theorem Tryd.tg0 : (Tryd.prog.globals[0]?).map (·.type) = some 96 := by kernel_rfl
theorem Tryd.tg1 : (Tryd.prog.globals[1]?).map (·.type) = some 97 := by kernel_rfl
theorem tab_is : (Rows.laid_math_bits_deBruijn64tab : DataW Unit) = Lib.tabData .u8 (Lib.deBruijn64tab.map fun (n : Nat) => (n : Int)) := rfl
/-- The door's own heap meets the condition: closed facts. -/
theorem door_met (os : Os) (args : Array Value) : laidMetH Tryd.prog laidL ((World.doorLaid Tryd.prog 40 os).forCall (fun _ _ => 0) ⟨#[], args, []⟩).memory :=
  laidMetH_of_parts3 (fuel := 8) (laidMet_of_run' 8 (by kernel_rfl) (by kernel_rfl)) (by kernel_rfl) (by kernel_rfl)

set_option maxRecDepth 100000 in
theorem tab_of_laid {W : World} (h : laidMetH Tryd.prog laidL W) : Tab W := by
  rw [MakeChecks.laidMetH_plain _ _ _ (by kernel_rfl)] at h
  obtain ⟨ps, ⟨g0, t0, cs0, f0, p0, q0, hg0, ht0, hv0, hd0, ⟨g1, t1, cs1, f1, p1, q1, hg1, ht1, hv1, hd1, _, _⟩, _⟩, _, _⟩ := h
  obtain rfl := Option.some.inj (Tryd.g1.symm.trans hg1)
  obtain rfl := Option.some.inj (Tryd.tg1.symm.trans ht1)
  rw [tab_is] at hd1
  have hcs := Lib.cells_of_tab (n := 64) (e := 5) Tryd.underlying97 Tryd.underlying5 (by kernel_rfl) (by kernel_rfl) hd1
  intro j hj
  have h1 := World.var?_cell hg1 hv1 j
  rw [h1, ← Array.getElem?_toList, hcs]
  simp [List.getD, hj]

end Go.Proofs.YtmojkeokkebbfaaDoor
