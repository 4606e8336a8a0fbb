/- It is proved what CoverClubs of the reference model returns; conditions: those of each statement. -/
import Derived.RowKit
import Derived.Laws.CopyRow
import Derived.Lib.SlBuf
import Derived.Deep.QuietTactic
import Derived.RangeFuncNested
import Derived.RangeFuncBound
import Derived.RangeFuncCalls
import Derived.RangeFuncLeaves
import Derived.RangeFuncBox
import Derived.RangeFuncWrites
import Derived.StillTailTactics
import Derived.Maps.OwnIn
import Derived.Maps.Ext
import Derived.DeepKeys4
import Derived.MapKept
import Derived.Test.YtcmpjegfikdofaaDoorRows
import Derived.WalkKit
import Derived.WalkSpells
import Derived.ProofKit
import Derived.OpenShut
import Derived.ShutString
import Derived.ChangeOld
import Derived.Below
import Derived.Deep.RegionHeld3
import Derived.BigQuiet
import Derived.Lib.Hide
import Derived.Lib.SmallJoins
import Derived.Outline
import Derived.Laws.MakeOwn
import Derived.Laws.OwnMore
import Derived.IntWalk
import Derived.Maps.AppendAt
import Derived.Lib.AppendZeros
import Derived.Deep.AppendLies
import Derived.OwnWalk
import Derived.Lib.SlicesCompact
import Derived.Lib.OwnBridge
import Derived.OrdersIn
import Derived.TacticsIn
import Derived.Shelf.Sort.Plain
import Derived.Shelf.Slices.In.SortNone
import Derived.Shelf.Slices.CompactI
import Derived.Ground.Names2Prog
import Derived.Lib.SliceRun
import Derived.Shelf.Abstract
import Derived.Shelf.RegionOpen
import Derived.OwnWalkIn
import Derived.TacticsInMore
import Derived.LoopNIn
import Derived.LoopIn
import Derived.StillTail
import Derived.StillTactics
import Derived.Shelf.Spec.TrailingZeros
import Derived.Test.YtcmpjegfikdofaaDoorMraa
import Derived.Test.YtcmpjegfikdofaaDoorMrbc
import Derived.Test.YtcmpjegfikdofaaDoorMrae
import Derived.Test.YtcmpjegfikdofaaDoorMraf
import Derived.Test.YtcmpjegfikdofaaDoorMraz
import Derived.Test.YtcmpjegfikdofaaDoorMrag
import Derived.Test.YtcmpjegfikdofaaDoorMrah
import Derived.Test.YtcmpjegfikdofaaDoorMrbd
import Derived.Test.YtcmpjegfikdofaaDoorMrab
import Derived.Test.YtcmpjegfikdofaaDoorKa
import Derived.Test.YtcmpjegfikdofaaDoorKc
import Derived.Test.YtcmpjegfikdofaaDoorKh
import Derived.Test.YtcmpjegfikdofaaDoorMrbe
import Derived.Test.YtcmpjegfikdofaaDoorMrac
import Derived.Test.YtcmpjegfikdofaaDoorMrba
import Derived.Test.YtcmpjegfikdofaaDoorMrao
import Derived.Test.YtcmpjegfikdofaaDoorMrap
import Derived.Test.YtcmpjegfikdofaaDoorMrat
namespace Go.Proofs.YtcmpjegfikdofaaDoor
open Go.RowKit

/-- The sets that a set and the members below v of a club make. -/
def rowTo (s z v : Nat) : List Int := ((List.range v).filter fun u => z.testBit u).map fun u => ((s ||| 2 ^ u : Nat) : Int)

theorem rowTo_succ (s z v : Nat) : rowTo s z (v + 1) = rowTo s z v ++ (if z.testBit v then [((s ||| 2 ^ v : Nat) : Int)] else []) := by
  unfold rowTo
  rw [List.range_succ, List.filter_append, List.map_append]
  cases h : z.testBit v <;> simp [h]

theorem rowTo_len (s z v : Nat) : (rowTo s z v).length ≤ v := by
  unfold rowTo
  rw [List.length_map]
  exact Nat.le_trans (List.length_filter_le _ _) (by simp)

theorem growL_succ (L : List Int) (z : Int) (k j : Nat) (hk : k ≤ 6) (hz : z.toNat < 2 ^ k) (hj : j < L.length) : growL (L.take (j + 1)) z = growL (L.take j) z ++ rowTo (L[j]?.getD 0).toNat z.toNat k := by
  unfold growL rowTo
  rw [List.take_succ_eq_append_getElem hj, List.flatMap_append, List.flatMap_singleton, mem_range k hk _ hz, List.getElem?_eq_getElem hj]
  rfl

theorem growL_len (z : Int) (k : Nat) (hk : k ≤ 6) (hz : z.toNat < 2 ^ k) : ∀ L : List Int, (growL L z).length ≤ 6 * L.length
  | [] => by simp [growL]
  | x :: L => by
    have h1 := growL_len z k hk hz L
    have h2 := mem_length z.toNat (p64 hk hz)
    unfold growL at h1 ⊢
    rw [List.flatMap_cons, List.length_append, List.length_map, List.length_cons]
    omega

set_option maxRecDepth 100000 in
theorem orP_fin : ∀ s : Fin 64, ∀ v : Fin 6, bits .or .i64 (s.val : Int) ((2 : Int) ^ v.val) = ((s.val ||| 2 ^ v.val : Nat) : Int) := by decide +kernel

theorem orP_at {s v : Nat} (hs : s < 64) (hv : v < 6) : bits .or .i64 (s : Int) ((2 : Int) ^ v) = ((s ||| 2 ^ v : Nat) : Int) := orP_fin ⟨s, hs⟩ ⟨v, hv⟩
set_option maxRecDepth 100000 in
set_option maxHeartbeats 8000000 in
theorem specCoverClubs_yes (k : Nat) (a : Option Addr) (c : Nat) (zs : List Int) (w : World) (ha : Ints w w.heap.size a zs) (hx : zs.length ≤ 1048576) (hf : famIn (k : Int) zs = true) :
    Calls Tryd.prog 18 #[.agg #[.int .i64 (k : Int), .slice a zs.length c]] w (RetSB w (lcL k zs) true) := by
  obtain ⟨i0, hi0, hz0, hz1, hz2⟩ := info_parts Tryd.info3
  obtain ⟨k', ek, hk1, hk6, hset, hl8⟩ := fam_nat hf
  obtain rfl : k = k' := by omega
  obtain ⟨W1, hW1, b0, hs1, hB1⟩ : ∃ W1, w.alloc (.cells #[.int .i64 (k : Int), .slice a zs.length c] 25) = W1 ∧ HasBlk W1 w.heap.size #[.int .i64 (k : Int), .slice a zs.length c] 25 ∧ W1.heap.size = w.heap.size + 1 ∧ Below w.heap.size w W1 := ⟨_, rfl, alloc_new w _, by simp, below1 w _⟩
  have hA1 : Ints W1 W1.heap.size a zs := (ha.below hB1).mono (by omega)
  have HFI := Lib.hid (specFamilyIn_any (k : Int) a c zs W1 hA1 hx)
  have HF := Lib.hid hf
  have HSET := Lib.hid hset
  have HA1 := Lib.hid hA1
  have HB1 := Lib.hid hB1
  have B0 := Lib.hid b0
  have HS1 := Lib.hid hs1
  have x0 := (blk_cell b0 0).trans (cell2_0 _ _)
  have x1 := (blk_cell b0 1).trans (cell2_1 _ _)
  obtain ⟨Y, hY⟩ : ∃ Y, Y = zs.length := ⟨_, rfl⟩
  have HY := Lib.hid hY
  have hY8 : Y ≤ 8 := by omega
  clear ha hA1 hset hf b0 hB1 hs1 hY hx
  go_enter Tryd.func18, Tryd.ntmps18
  go_wp2_with fail
  refine HFI.out.mono ?_
  rintro e w2 ⟨rfl, hb2⟩
  rw [HF.out]
  have B2 := Lib.hid ((hb2.block _ (lt_of_some B0.out)).trans B0.out)
  have HB2 := Lib.hid (HB1.out.trans (hb2.mono HB1.out.size))
  have HA2 := Lib.hid ((HA1.out.below hb2).mono hb2.size)
  have hs2 : w.heap.size < w2.heap.size := lt_of_some B2.out
  clear hb2 hW1 x0 x1 HFI HF
  obtain ⟨W3, hW3, o3, hb3⟩ : ∃ W3, w2.alloc (.cells #[.int .i64 0] 3) = W3 ∧ OwnI W3 w.heap.size (.slice (some ⟨w2.heap.size, 0, none⟩) 1 1) [0] ∧ Below w2.heap.size w2 W3 := ⟨_, rfl, ⟨by simp, .inr ⟨_, _, _, rfl, by omega, alloc_new w2 _, by decide, by simp only [maxLen]; omega, rfl, rfl⟩⟩, below1 w2 _⟩
  have HO3 := Lib.hid o3
  have HB3 := Lib.hid hb3
  clear o3 hb3
  have HK6 := Lib.hid hk6
  have hk1I : (1 : Int) ≤ (k : Int) := by omega
  have hk6I : (k : Int) ≤ 6 := by omega
  go_wp2
  clear hW3
  go_loopw [4, 5] (fun o i wr => ∃ (j n : Nat) (a' : Option Addr) (c' : Nat), j ≤ Y ∧ i = .int .i64 j ∧ o = .slice a' n c' ∧ OwnN wr w.heap.size a' n c' (lcL k (zs.take j)) ∧ Below w2.heap.size w2 wr) (fun _ i _ => Y - (intOf i).toNat)
  case atStart => exact ⟨0, 1, _, _, Nat.zero_le _, rfl, rfl, by rw [List.take_zero, lcL_nil k hk6]; exact HO3.out, HB3.out⟩
  case round =>
    obtain ⟨j, n, a', c', hj, rfl, rfl, ho, hb⟩ := hrel
    obtain ⟨wo, hwo⟩ : ∃ wo, wo = wr := ⟨wr, rfl⟩
    subst hwo
    obtain ⟨L, hL⟩ : ∃ L, L = lcL k (zs.take j) := ⟨_, rfl⟩
    rw [← hL] at ho
    have hLn : L.length = n := ho.len
    have hn64 : n ≤ 64 := by rw [← hLn, hL]; exact lcL_len hk6 _
    have hL64 : ∀ x ∈ L, 0 ≤ x ∧ x < 64 := by rw [hL]; exact lcL_in hk6
    have HL := Lib.hid hL
    have HLN := Lib.hid hLn
    have HL64 := Lib.hid hL64
    have HO := Lib.hid ho
    have HB := Lib.hid hb
    have BO := Lib.hid ((hb.block _ hs2).trans B2.out)
    have hso := hb.size
    have y0 := (blk_cell BO.out 0).trans (cell2_0 _ _)
    have y1 : wo.cell? ⟨w.heap.size, 1, none⟩ = some (.slice a Y c) := by rw [HY.out]; exact (blk_cell BO.out 1).trans (cell2_1 _ _)
    clear hL hLn hL64 ho hb HB3 HO3
    by_cases hlt : j < Y
    · have hjl : j < zs.length := by rw [← HY.out]; exact hlt
      obtain ⟨b1, o1, ha1, hb1, hc1⟩ := HA2.out.at_ (k := j) hjl
      have hzz := HSET.out _ (at_in hjl)
      have htk : zs.take (j + 1) = zs.take j ++ [zs[j]?.getD 0] := by rw [List.take_succ_eq_append_getElem hjl, List.getElem?_eq_getElem hjl]; rfl
      obtain ⟨z, hz⟩ : ∃ z, z = zs[j]?.getD 0 := ⟨_, rfl⟩
      rw [← hz] at hc1 hzz htk
      obtain ⟨zn, rfl⟩ : ∃ zn : Nat, z = (zn : Int) := ⟨z.toNat, by omega⟩
      have hzk : zn < 2 ^ k := by have := hzz.2; rwa [Int.toNat_natCast] at this
      have hgl := grow_least hk6 (zs.take j) ((zn : Nat) : Int) (by rw [Int.toNat_natCast]; exact hzk)
      rw [← htk, ← HL.out] at hgl
      have HG := Lib.hid hgl
      have hzc := (HB.out.cell (p := ⟨b1, o1 + j, none⟩) hb1).trans hc1
      have HZC := Lib.hid hzc
      have HA1' := Lib.hid ha1
      have hb1o : b1 < wo.heap.size := Nat.lt_of_lt_of_le hb1 hso
      have hz64 : zn < 64 := p64 hk6 hzk
      have HZK := Lib.hid hzk
      clear hz htk hgl hc1 hb1 hjl hzz hzc hzk ha1
      go_wp2
      clear y0 y1
      go_loopw [6, 7] (fun nx i wr => ∃ (p q : Nat) (a6 : Option Addr) (c6 : Nat), p ≤ n ∧ i = .int .i64 p ∧ nx = .slice a6 q c6 ∧ OwnN wr wo.heap.size a6 q c6 (growL (L.take p) (zn : Int)) ∧ Below wo.heap.size wo wr) (fun _ i _ => n - (intOf i).toNat)
      case atStart => exact ⟨0, 0, _, _, Nat.zero_le _, rfl, rfl, own_empty (alloc_new wo _) (Nat.le_refl _), below1 wo _⟩
      case round =>
        obtain ⟨p, q, a6, c6, hp, rfl, rfl, ho, hb⟩ := hrel
        obtain ⟨wm, hwm⟩ : ∃ wm, wm = wr := ⟨wr, rfl⟩
        subst hwm
        have HOM := Lib.hid ho
        have HBM := Lib.hid hb
        have hqn := ho.len
        have hgl := growL_len (zn : Int) k hk6 (by rw [Int.toNat_natCast]; exact HZK.out) (L.take p)
        have hq : q ≤ 6 * p := by rw [← hqn]; refine Nat.le_trans hgl (Nat.mul_le_mul_left _ ?_); rw [List.length_take]; omega
        clear ho hb hgl hqn
        by_cases hlt2 : p < n
        · have hpl : p < L.length := by rw [HLN.out]; exact hlt2
          obtain ⟨b3, o3, ha3, hb3, hc3⟩ := HO.out.ints.at_ (k := p) hpl
          have hs64 := HL64.out _ (at_in hpl)
          have hgs := growL_succ L (zn : Int) k p hk6 (by rw [Int.toNat_natCast]; exact HZK.out) hpl
          obtain ⟨s, hs⟩ : ∃ s, s = L[p]?.getD 0 := ⟨_, rfl⟩
          rw [← hs] at hc3 hs64 hgs
          obtain ⟨sn, rfl⟩ : ∃ sn : Nat, s = (sn : Int) := ⟨s.toNat, by omega⟩
          rw [Int.toNat_natCast, Int.toNat_natCast] at hgs
          have HGS := Lib.hid hgs
          have HSC := Lib.hid hc3
          have HA3 := Lib.hid ha3
          have hs64' : sn < 64 := by omega
          have HOA : Hid (OwnN wm wo.heap.size a6 q c6 (growL (L.take p) (zn : Int) ++ rowTo sn zn 0)) := Lib.hid (by rw [show rowTo sn zn 0 = [] from rfl, List.append_nil]; exact HOM.out)
          clear hs hgs hc3 hpl hs64 ha3 HOM
          go_wp2
          go_loopw [6, 8] (fun nx i wr => ∃ (v q' : Nat) (a6 : Option Addr) (c6 : Nat), v ≤ k ∧ q' ≤ q + v ∧ i = .int .i64 v ∧ nx = .slice a6 q' c6 ∧ OwnN wr wo.heap.size a6 q' c6 (growL (L.take p) (zn : Int) ++ rowTo sn zn v) ∧ Below wo.heap.size wo wr) (fun _ i _ => k - (intOf i).toNat)
          case atStart => exact ⟨0, q, a6, c6, Nat.zero_le _, Nat.le_refl _, rfl, rfl, HOA.out, HBM.out⟩
          case round =>
            obtain ⟨v, q', a7, c7, hv, hq', rfl, rfl, ho, hb⟩ := hrel
            have HON := Lib.hid ho
            have HBN := Lib.hid hb
            have BN := Lib.hid ((hb.block _ (Nat.lt_of_lt_of_le hs2 hso)).trans BO.out)
            have y0 := (blk_cell BN.out 0).trans (cell2_0 _ _)
            have y1 : wr.cell? ⟨w.heap.size, 1, none⟩ = some (.slice a Y c) := by rw [HY.out]; exact (blk_cell BN.out 1).trans (cell2_1 _ _)
            have hzc := (hb.cell (p := ⟨b1, o1 + j, none⟩) hb1o).trans HZC.out
            have hsc := (hb.cell (p := ⟨b3, o3 + p, none⟩) hb3).trans HSC.out
            have hszn := hb.size
            clear ho hb
            by_cases hvk : v < k
            · have hbv := bit_val (S := zn) (v := v) hz64 (by omega)
              have hrs := rowTo_succ sn zn v
              have hv64 : (v : Int) < 64 := by omega
              have hv0 : (0 : Int) ≤ (v : Int) := by omega
              have ha1 := HA1'.out
              subst ha1
              cases htb : zn.testBit v
              · rw [htb] at hbv hrs
                simp only [Bool.false_eq_true, if_false, List.append_nil] at hbv hrs
                have HRS := Lib.hid hrs
                clear hrs htb
                go_wp2
                go_roundw
                case rel => exact ⟨v + 1, q', a7, c7, by omega, by omega, by go_num, rfl, by rw [HRS.out]; exact HON.out, HBN.out⟩
                case measure => simp [intOf]; omega
              · rw [htb] at hbv hrs
                simp only [if_true] at hbv hrs
                have HRS := Lib.hid hrs
                have hor := orP_at hs64' (show v < 6 by omega)
                have hp2 := p2_small v (by omega)
                have hpw : IntKind.i64.wrap ((2 : Int) ^ v) = (2 : Int) ^ v := by rw [IntKind.wrap_i64]; omega
                have ha3 := HA3.out
                subst ha3
                obtain ⟨a5, c5, w5, hr5, ho5, hall⟩ := app_int (W := wr.drew) (own_drew HON.out) (by show wo.heap.size ≤ wr.heap.size; exact hszn) (by omega) ((sn ||| 2 ^ v : Nat) : Int)
                obtain ⟨hb5, -⟩ := hall (fun g => wo.heap.size ≤ g) (fun g hg => (World.ownsRow.lt HON.out g hg).1) (fun g hg => Nat.le_trans hszn hg)
                have HB5 : Hid (Below wo.heap.size wo w5) := Lib.hid (HBN.out.drew.trans (hb5.below (B := wo.heap.size) (by show wo.heap.size ≤ wr.heap.size; exact hszn) (fun k hk => hk)))
                have y7 := (HB5.out.cell (p := ⟨b3, o3 + p, none⟩) hb3).trans HSC.out
                have HR5 := Lib.hid hr5
                have HO5 := Lib.hid ho5
                have hb3r : b3 < wr.heap.size := Nat.lt_of_lt_of_le hb3 hszn
                clear hall hb5 hr5 ho5 htb hrs
                go_wp2
                go_region_held3 (fun w' => w'.cell? ⟨b3, o3 + p, none⟩ = some (.int .i64 (sn : Int)))
                  (first
                    | exact hsc
                    | exact (World.cell?_alloc_lt wr _ _ hb3r).trans hsc
                    | exact y7)
                  (first
                    | (refine step_run2 (by rfl) _ _ 23 23 (by rfl) (.slice a7 q' c7) (.slice (some ⟨wr.heap.size, 0, none⟩) 1 1) (by rfl) (by rfl) ?_; refine ⟨_, _, HR5.out, ?_⟩))
                go_wp2
                go_roundw
                case rel => exact ⟨v + 1, q' + 1, _, c5, by omega, by omega, by go_num, rfl, by rw [HRS.out, ← List.append_assoc]; exact HO5.out, HB5.out⟩
                case measure => simp [intOf]; omega
            · obtain rfl : v = k := by omega
              clear hzc hsc
              go_wp2
              go_roundw
              case rel => exact ⟨p + 1, q', a7, c7, by omega, by go_num, rfl, by rw [HGS.out]; exact HON.out, HBN.out⟩
              case measure => simp [intOf]; omega
        · obtain rfl : p = n := by omega
          have hLt : L.take p = L := List.take_of_length_le (by rw [HLN.out]; exact Nat.le_refl _)
          have HOM2 := HOM.out
          rw [hLt] at HOM2
          have hql := HOM2.len
          have hC := l1Least_any a6 c6 _ wm HOM2.ints (by omega)
          rw [hql, HG.out] at hC
          have HC := Lib.hid hC
          have HOM3 := Lib.hid HOM2
          have hszm := HBM.out.size
          clear hC hLt HOM2 HOM hql
          go_wp2_with fail
          refine HC.out.mono ?_
          rintro e w7 ⟨g7, c7, rfl, ho7, hb7⟩
          have HO7 := Lib.hid (ho7.base (B' := w.heap.size) (by omega))
          have HB7 := Lib.hid ((HB.out.trans (HBM.out.mono hso)).trans (hb7.mono (by omega)))
          clear ho7 hb7
          go_wp2
          go_roundw
          case rel => exact ⟨j + 1, _, _, c7, by omega, by go_num, rfl, HO7.out, HB7.out⟩
          case measure => simp [intOf]; omega
    · obtain rfl : j = Y := by omega
      have hzt : zs.take j = zs := List.take_of_length_le (by rw [HY.out]; exact Nat.le_refl _)
      have HOF : Hid (OwnN wo w.heap.size a' n c' (lcL k zs)) := Lib.hid (by have h1 := HO.out; rw [HL.out, hzt] at h1; exact h1)
      have hln : (lcL k zs).length = n := HOF.out.len
      have HR := Lib.hid (HB2.out.trans (HB.out.mono HB2.out.size))
      clear hzt
      go_wp2
      go_ret2
      refine ⟨a', c', by rw [hln]; rfl, ?_, HR.out⟩
      have h1 := HOF.out
      unfold OwnI
      rw [hln]
      exact h1

set_option maxRecDepth 100000 in
set_option maxHeartbeats 2000000 in
theorem specCoverClubs_any (m : Int) (a : Option Addr) (c : Nat) (zs : List Int) (w : World) (ha : Ints w w.heap.size a zs) (hx : zs.length ≤ 1048576) :
    Calls Tryd.prog 18 #[.agg #[.int .i64 m, .slice a zs.length c]] w (RetSB w (lcZ m zs) (famIn m zs)) := by
  unfold lcZ
  cases hf : famIn m zs
  · have HB0 := Lib.hid (below1 w (.cells #[.int .i64 m, .slice a zs.length c] 25))
    have HA := Lib.hid (ha.below HB0.out)
    have HF := Lib.hid hf
    clear ha hf
    go_enter Tryd.func18, Tryd.ntmps18
    go_wp2_with fail
    refine (specFamilyIn_any _ _ _ zs _ (HA.out.mono (by simp)) hx).mono ?_
    rintro e w1 ⟨rfl, hb⟩
    rw [HF.out]
    have hs : w.heap.size ≤ w1.heap.size := by have := hb.size; simp at this; omega
    have HB := Lib.hid ((HB0.out.trans (hb.mono (by simp))).trans ((below1 w1 (.cells #[] 3)).mono hs))
    have HO : Hid (OwnI (w1.alloc (.cells #[] 3)) w.heap.size (.slice (some ⟨w1.heap.size, 0, none⟩) 0 0) []) := Lib.hid (own_empty (alloc_new w1 _) hs)
    clear hb
    go_wp2
    go_ret2
    exact ⟨_, 0, rfl, HO.out, HB.out⟩
  · obtain ⟨k, rfl, -, -, -, -⟩ := fam_nat hf
    rw [if_pos rfl, Int.toNat_natCast]
    exact specCoverClubs_yes k a c zs w ha hx hf

end Go.Proofs.YtcmpjegfikdofaaDoor
