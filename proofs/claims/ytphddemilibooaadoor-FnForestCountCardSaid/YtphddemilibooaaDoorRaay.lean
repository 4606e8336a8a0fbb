/- It is proved what the reference model's l4Sets and CoverSets return; conditions: those of each statement. -/
import Derived.StillTailTactics
import Derived.RowKit
import Derived.Laws.CopyRow
import Derived.Lib.SlBuf
import Derived.Deep.QuietTactic
import Derived.RangeFuncNested
import Derived.RangeFuncBound
import Derived.RangeFuncCalls
import Derived.RangeFuncLeaves
import Derived.RangeFuncBox
import Derived.RangeFuncWrites
import Derived.Maps.OwnIn
import Derived.Maps.Ext
import Derived.DeepKeys4
import Derived.MapKept
import Derived.Test.YtphddemilibooaaDoorRows
import Derived.WalkKit
import Derived.WalkSpells
import Derived.ProofKit
import Derived.OpenShut
import Derived.ShutString
import Derived.ChangeOld
import Derived.Below
import Derived.Deep.RegionHeld3
import Derived.BigQuiet
import Derived.Lib.Hide
import Derived.Lib.SmallJoins
import Derived.Outline
import Derived.Laws.MakeOwn
import Derived.Laws.OwnMore
import Derived.IntWalk
import Derived.Lib.AppendZeros
import Derived.Maps.AppendAt
import Derived.Deep.AppendLies
import Derived.OwnWalk
import Derived.Lib.SlicesCompact
import Derived.Lib.OwnBridge
import Derived.OrdersIn
import Derived.TacticsIn
import Derived.Shelf.Sort.Plain
import Derived.Shelf.Slices.In.SortNone
import Derived.Shelf.Slices.CompactI
import Derived.Ground.Names2Prog
import Derived.Lib.SliceRun
import Derived.Shelf.Abstract
import Derived.Shelf.RegionOpen
import Derived.OwnWalkIn
import Derived.TacticsInMore
import Derived.LoopNIn
import Derived.LoopIn
import Derived.StillTail
import Derived.StillTactics
import Derived.Shelf.Spec.TrailingZeros
import Derived.Test.YtphddemilibooaaDoorRaab
import Derived.Test.YtphddemilibooaaDoorRaaa
import Derived.Test.YtphddemilibooaaDoorRaac
import Derived.Test.YtphddemilibooaaDoorRaad
import Derived.Test.YtphddemilibooaaDoorRaaw
import Derived.Test.YtphddemilibooaaDoorRaal
import Derived.Test.YtphddemilibooaaDoorKc
import Derived.Test.YtphddemilibooaaDoorRaav
import Derived.Test.YtphddemilibooaaDoorRaax
namespace Go.Proofs.YtphddemilibooaaDoor
open Go.RowKit

/-- A set is a cover, and none of its parts without one of the first k members is one. -/
def minTo (zs : List Int) (s k : Nat) : Bool := covB zs s && (List.range k).all fun v => !(s.testBit v) || !covB zs (woP s v)

theorem minTo_succ (zs : List Int) (s k : Nat) : minTo zs s (k + 1) = (minTo zs s k && (!(s.testBit k) || !covB zs (woP s k))) := by
  simp [minTo, List.range_succ, Bool.and_assoc]

theorem minTo_all (m : Nat) (zs : List Int) (s : Nat) : minTo zs s m = minB m zs s := rfl
def lcTo (m : Nat) (zs : List Int) (n : Nat) : List Int := ((List.range n).filter (minB m zs)).map fun s => ((s : Nat) : Int)
theorem lcTo_succ (m : Nat) (zs : List Int) (n : Nat) : lcTo m zs (n + 1) = lcTo m zs n ++ if minB m zs n then [(n : Int)] else [] := by
  rw [lcTo, List.range_succ, List.filter_append, List.map_append]
  cases h : minB m zs n <;> simp [lcTo, h]

set_option maxRecDepth 100000 in
theorem wow_fin : ∀ x : Fin 64, ∀ p : Fin 6, bits BinOp.andNot IntKind.i64 (x.val : Int) (IntKind.i64.wrap (2 ^ p.val)) = ((woP x.val p.val : Nat) : Int) := by decide +kernel

theorem wow_at (x p : Nat) (hx : x < 64) (hp : p < 6) : bits BinOp.andNot IntKind.i64 (x : Int) (IntKind.i64.wrap (2 ^ p)) = ((woP x p : Nat) : Int) := wow_fin ⟨x, hx⟩ ⟨p, hp⟩
set_option maxRecDepth 100000 in
set_option maxHeartbeats 4000000 in
theorem l4Sets_any (m : Nat) (hm1 : 1 ≤ m) (hm : m ≤ 6) (a : Option Addr) (c : Nat) (zs : List Int) (w : World) (ha : Ints w w.heap.size a zs) (hx : zs.length ≤ 1048576) (hz : Sets m zs) :
    Calls Tryd.prog 28 #[.agg #[.int .i64 (m : Int), .slice a zs.length c]] w (RetOwn w (lcL m zs)) := by
  obtain ⟨i0, hi0, hz0, hz1, hz2⟩ := info_parts Tryd.info3
  have hp64 : 2 ^ m ≤ 64 := Nat.pow_le_pow_right (n := 2) (by decide) hm
  have hz64 : ∀ z ∈ zs, 0 ≤ z ∧ z.toNat < 64 := fun z h => ⟨(hz z h).1, by have := (hz z h).2; omega⟩
  have hfull : fullI (m : Int) = ((2 ^ m - 1 : Nat) : Int) := by
    unfold fullI
    have : 1 ≤ 2 ^ m := Nat.one_le_two_pow
    have h2 : ((2 ^ m : Nat) : Int) = (2 : Int) ^ m := by norm_cast
    rw [Int.toNat_natCast]
    omega
  obtain ⟨N, hN⟩ : ∃ N, N = 2 ^ m := ⟨_, rfl⟩
  have hN1 : 1 ≤ N := by rw [hN]; exact Nat.one_le_two_pow
  have HNN := Lib.hid hN
  rw [← hN] at hp64 hfull
  have HZ := Lib.hid hz64
  have HF := Lib.hid hfull
  have hm1I : (1 : Int) ≤ (m : Int) := by omega
  have hm6I : (m : Int) ≤ 6 := by omega
  have HB0 := Lib.hid (below1 w (.cells #[.int .i64 (m : Int), .slice a zs.length c] 25))
  have b0 := alloc_new w (.cells #[.int .i64 (m : Int), .slice a zs.length c] 25)
  have B0 := Lib.hid b0
  have HA := Lib.hid (ha.below HB0.out)
  obtain ⟨W1, hW1, hs1⟩ : ∃ W1, w.alloc (.cells #[.int .i64 (m : Int), .slice a zs.length c] 25) = W1 ∧ W1.heap.size = w.heap.size + 1 := ⟨_, rfl, by simp⟩
  rw [hW1] at HB0 B0 HA
  have HS1 := Lib.hid hs1
  clear ha hz hz64 hfull hN b0 hs1
  go_enter Tryd.func28, Tryd.ntmps28
  go_wp2
  clear hW1
  go_loopw [3, 4, 5, 6] (fun v i _ _ wr => ∃ (k n' : Nat) (g' c' : Nat), k ≤ N ∧ i = .int .i64 k ∧ v = .slice (some ⟨g', 0, none⟩) n' c' ∧ n' ≤ k ∧ OwnN wr W1.heap.size (some ⟨g', 0, none⟩) n' c' (lcTo m zs k) ∧ Below W1.heap.size W1 wr) (fun _ i _ _ _ => N - (intOf i).toNat)
  case atStart => exact ⟨0, _, _, _, Nat.zero_le _, rfl, rfl, Nat.le_refl _, own_empty (alloc_new W1 _) (Nat.le_refl _), below1 _ _⟩
  case round =>
    obtain ⟨k, n', g', c', hk, rfl, rfl, hn', ho, hb⟩ := hrel
    obtain ⟨wo, rfl⟩ : ∃ wo, wo = wr := ⟨wr, rfl⟩
    have HO := Lib.hid ho
    have HB := Lib.hid hb
    have hsw : W1.heap.size ≤ wo.heap.size := hb.size
    have hw0 : w.heap.size < W1.heap.size := by have := HS1.out; omega
    have hbo : HasBlk wo w.heap.size #[.int .i64 (m : Int), .slice a zs.length c] 25 := (hb.block _ hw0).trans B0.out
    have x0 := (blk_cell hbo 0).trans (cell2_0 _ _)
    have x1 := (blk_cell hbo 1).trans (cell2_1 _ _)
    have HBO := Lib.hid hbo
    clear ho hb hbo
    have HAL := Lib.hid (l1All_b (m : Int) a zs.length c wo hm1I hm6I)
    have hk0 : (0 : Int) ≤ (k : Int) := by omega
    have hk64 : (k : Int) ≤ 64 := by omega
    by_cases hlt : k < N
    · have hkN : (k : Int) ≤ ((N - 1 : Nat) : Int) := by omega
      have hkk : k < 64 := by omega
      go_wp2_with fail
      refine HAL.out.mono ?_
      rintro e w2 ⟨rfl, hb2⟩
      rw [HF.out]
      have y0 := (hb2.cell (p := ⟨w.heap.size, 0, none⟩) (by show w.heap.size < wo.heap.size; omega)).trans x0
      have y1 := (hb2.cell (p := ⟨w.heap.size, 1, none⟩) (by show w.heap.size < wo.heap.size; omega)).trans x1
      have hIn2 := l4In_any a c zs k w2 (((HA.out.below (HB.out.mono (by omega))).below (hb2.mono (by omega))).mono (by have := hb2.size; omega)) hx HZ.out hkk
      have HIn2 := Lib.hid hIn2
      have HB2 := Lib.hid hb2
      clear hb2 hIn2
      go_wp2_with fail
      refine HIn2.out.mono ?_
      rintro e w3 ⟨rfl, rfl⟩
      go_wp2
      go_loopw [5, 6] (fun ok vv ws => ∃ v : Nat, v ≤ m ∧ vv = .int .i64 v ∧ ok = .bool (minTo zs k v) ∧ Below wo.heap.size wo ws) (fun _ vv _ => m - (intOf vv).toNat)
      case atStart => exact ⟨0, Nat.zero_le _, rfl, by simp [minTo], HB2.out⟩
      case round =>
        obtain ⟨v, hv, rfl, rfl, hbs⟩ := hrel
        have z0 := (hbs.cell (p := ⟨w.heap.size, 0, none⟩) (by show w.heap.size < wo.heap.size; omega)).trans x0
        have z1 := (hbs.cell (p := ⟨w.heap.size, 1, none⟩) (by show w.heap.size < wo.heap.size; omega)).trans x1
        have HBS := Lib.hid hbs
        by_cases hvm : v < m
        · have hvI : (v : Int) < (m : Int) := by omega
          have hv6 : (v : Int) < 64 := by omega
          have hv0 : (0 : Int) ≤ (v : Int) := by omega
          have hbit := bit_val (S := k) (v := v) hkk (by omega)
          have HS := Lib.hid (minTo_succ zs k v)
          cases htb : k.testBit v
          · have HM : Hid (minTo zs k (v + 1) = minTo zs k v) := Lib.hid (by rw [HS.out, htb]; simp)
            rw [htb] at hbit
            simp only [Bool.false_eq_true, if_false] at hbit
            clear hbs htb
            go_wp2
            go_quiet (fail)
            go_wp2
            go_roundw
            case rel => exact ⟨v + 1, by omega, by go_num, by rw [HM.out], below_drewN HBS.out _⟩
            case measure => simp [intOf]; omega
          · have hwo := wow_at k v hkk (by omega)
            have hwl : woP k v < 64 := Nat.lt_of_le_of_lt (wo_le k v) hkk
            obtain ⟨u, hu⟩ : ∃ u, u = woP k v := ⟨_, rfl⟩
            rw [← hu] at hwo hwl
            have hInv := l4In_any a c zs u wr.drew (((HA.out.below (HB.out.mono (by omega))).below (hbs.drew.mono (by omega))).mono (by have := hbs.size; show w.heap.size ≤ wr.heap.size; omega)) hx HZ.out hwl
            have HInv := Lib.hid hInv
            have HU := Lib.hid hu
            rw [htb] at hbit
            simp only [if_true] at hbit
            have HTB := Lib.hid htb
            have hp2 := p2_small v (by omega)
            clear hbs htb hu hInv hwl
            cases hcv : covB zs u
            · have HCV := Lib.hid hcv
              have HM : Hid (minTo zs k (v + 1) = minTo zs k v) := Lib.hid (by rw [HS.out, HTB.out, ← HU.out, hcv]; simp)
              clear hcv
              go_wp2
              go_still_tail 13, (by kernel_rfl)
              try rw [hwo]
              still_call (HInv.out.mono fun _ _ h => ⟨by rw [h.1, HCV.out], h.2.symm⟩)
              repeat still_step
              refine wpStill_nil ?_
              change wpList _ _ _ _ _ wr.drew
              go_wp2
              go_roundw
              case rel => exact ⟨v + 1, by omega, by go_num, by rw [HM.out], HBS.out.drew⟩
              case measure => simp [intOf]; omega
            · have HCV := Lib.hid hcv
              have HM : Hid (minTo zs k (v + 1) = false) := Lib.hid (by rw [HS.out, HTB.out, ← HU.out, hcv]; simp)
              clear hcv
              go_wp2
              go_still_tail 13, (by kernel_rfl)
              try rw [hwo]
              still_call (HInv.out.mono fun _ _ h => ⟨by rw [h.1, HCV.out], h.2.symm⟩)
              repeat still_step
              refine wpStill_nil ?_
              change wpList _ _ _ _ _ wr.drew
              go_wp2
              go_roundw
              case rel => exact ⟨v + 1, by omega, by go_num, by rw [HM.out], HBS.out.drew⟩
              case measure => simp [intOf]; omega
        · obtain rfl : v = m := by omega
          have HLS := Lib.hid (lcTo_succ v zs k)
          have HOS := Lib.hid (HO.out.below hbs)
          have HBW := Lib.hid (HB.out.trans (hbs.mono hsw))
          clear hbs
          cases hmb : minTo zs k v
          · have HMB : Hid (lcTo v zs (k + 1) = lcTo v zs k) := Lib.hid (by rw [HLS.out, ← minTo_all, hmb]; simp)
            clear hmb
            go_wp2
            go_roundw
            case rel => exact ⟨k + 1, n', g', c', by omega, by go_num, rfl, by omega, by rw [HMB.out]; exact HOS.out, HBW.out⟩
            case measure => simp [intOf]; omega
          · have HMB : Hid (lcTo v zs (k + 1) = lcTo v zs k ++ [(k : Int)]) := Lib.hid (by rw [HLS.out, ← minTo_all, hmb]; simp)
            have hsz := HBW.out.size
            clear hmb
            go_wp2_with (at_builtin; refine wpList_append_own _ rfl _ _ 23 rfl W1.heap.size 3 i0 (.int .i64 0) 1 8 Tryd.underlying23 hi0 hz0 hz1 hz2 rfl (by decide) _ _ _ rfl (HOS.out.alloc _) ⟨wr.heap.size, 0, none⟩ 1 1 [.int .i64 (k : Int)] rfl rfl (cell_one_new _ _ _) (by simp [Value.oneCell']) (by simp only [maxLen]; omega) (by omega) (by simp; omega) ?_; intro v' w3 hown hgrow _; obtain ⟨g2, cap', rfl, _, _⟩ := World.ownsRow.form hown (by omega))
            go_roundw
            case rel => exact ⟨k + 1, n' + 1, _, cap', by omega, by go_num, rfl, by omega, by
              rw [HMB.out]
              have h1 := hown
              unfold OwnN
              rw [List.map_append]
              exact h1, (HBW.out.alloc (by omega) _).grown hgrow (by simp; omega) (fun g e => (World.ownsRow.lt HOS.out g e).1)⟩
            case measure => simp [intOf]; omega
    · obtain rfl : k = N := by omega
      have HLL : Hid (lcTo m zs k = lcL m zs) := Lib.hid (by rw [HNN.out]; rfl)
      have hl : n' = (lcL m zs).length := by rw [← HLL.out]; exact HO.out.len.symm
      subst hl
      have hkN : (((k - 1 : Nat) : Int)) < (k : Int) := by omega
      go_wp2_with fail
      refine HAL.out.mono ?_
      rintro e w2 ⟨rfl, hb2⟩
      rw [HF.out]
      have HB2 := Lib.hid hb2
      clear hb2
      go_wp2
      go_ret
      refine ⟨g', c', rfl, ?_, (HB0.out.trans (HB.out.mono (by omega))).trans (HB2.out.mono (by omega))⟩
      have h1 := (HO.out.below HB2.out).base (B' := w.heap.size) (by omega)
      rw [HLL.out] at h1
      exact h1

end Go.Proofs.YtphddemilibooaaDoor

/- It is proved what FamilyAll of the program and of the model return; conditions: those of each statement. -/
namespace Go.Proofs.YtphddemilibooaaDoor
open Go.RowKit Go.Shelf

attribute [local go_sem] Oper.semAt_some

/-- What a function of an int and a bool returns; nothing that lay has turned. -/
def RetIB (w : World) (r : Int) (ok : Bool) (e : Ending) (w' : World) : Prop := e = .returned (.tuple #[.int .i64 r, .bool ok]) ∧ Below w.heap.size w w'

end Go.Proofs.YtphddemilibooaaDoor
