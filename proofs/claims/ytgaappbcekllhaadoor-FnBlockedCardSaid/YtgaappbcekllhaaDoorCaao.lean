/- It is proved what SpeakerBlocked of the reference model returns; conditions: those of each statement. -/
import Derived.RowKit
import Derived.Laws.CopyRow
import Derived.Lib.SlBuf
import Derived.Deep.QuietTactic
import Derived.RangeFuncNested
import Derived.RangeFuncBound
import Derived.RangeFuncCalls
import Derived.RangeFuncLeaves
import Derived.RangeFuncBox
import Derived.RangeFuncWrites
import Derived.StillTailTactics
import Derived.Maps.OwnIn
import Derived.Maps.Ext
import Derived.DeepKeys4
import Derived.MapKept
import Derived.Test.YtgaappbcekllhaaDoorRows
import Derived.WalkKit
import Derived.WalkSpells
import Derived.ProofKit
import Derived.OpenShut
import Derived.ShutString
import Derived.ChangeOld
import Derived.Below
import Derived.Deep.RegionHeld3
import Derived.BigQuiet
import Derived.Lib.Hide
import Derived.Lib.SmallJoins
import Derived.Outline
import Derived.Laws.MakeOwn
import Derived.Laws.OwnMore
import Derived.IntWalk
import Derived.Maps.AppendAt
import Derived.Lib.AppendZeros
import Derived.Deep.AppendLies
import Derived.OwnWalk
import Derived.Lib.SlicesCompact
import Derived.Lib.OwnBridge
import Derived.OrdersIn
import Derived.TacticsIn
import Derived.Shelf.Sort.Plain
import Derived.Shelf.Slices.In.SortNone
import Derived.Shelf.Slices.CompactI
import Derived.Ground.Names2Prog
import Derived.Lib.SliceRun
import Derived.Shelf.RegionOpen
import Derived.Shelf.Abstract
import Derived.OwnWalkIn
import Derived.TacticsInMore
import Derived.LoopNIn
import Derived.LoopIn
import Derived.StillTail
import Derived.StillTactics
import Derived.Shelf.Spec.TrailingZeros
import Derived.Test.YtgaappbcekllhaaDoorCaad
import Derived.Test.YtgaappbcekllhaaDoorCaaa
import Derived.Test.YtgaappbcekllhaaDoorCaab
import Derived.Test.YtgaappbcekllhaaDoorCaan
import Derived.Test.YtgaappbcekllhaaDoorCaac
import Derived.Test.YtgaappbcekllhaaDoorCaag
import Derived.Test.YtgaappbcekllhaaDoorCaah
import Derived.Test.YtgaappbcekllhaaDoorMa
import Derived.Test.YtgaappbcekllhaaDoorCaam
import Derived.Test.YtgaappbcekllhaaDoorCaae
namespace Go.Proofs.YtgaappbcekllhaaDoor
open Go.RowKit

/-- The members of some that are missed. -/
def blkS (k : Nat) (zs : List Int) (ps : List Nat) : Nat := ps.foldl (fun s v => if matM zs (woP (2 ^ k - 1) v) < matM zs (2 ^ k - 1) then s ||| 2 ^ v else s) 0

theorem blkS_snoc (k : Nat) (zs : List Int) (ps : List Nat) (v : Nat) : blkS k zs (ps ++ [v]) = if matM zs (woP (2 ^ k - 1) v) < matM zs (2 ^ k - 1) then blkS k zs ps ||| 2 ^ v else blkS k zs ps := by simp [blkS]
theorem blkS_lt (k : Nat) (zs : List Int) : ∀ n, n ≤ 6 → blkS k zs (List.range n) < 64
  | 0, _ => by simp [blkS]
  | n + 1, h => by
    rw [List.range_succ, blkS_snoc]
    have := blkS_lt k zs n (by omega)
    split
    · exact Nat.or_lt_two_pow (n := 6) this (Nat.pow_lt_pow_right (a := 2) (m := n) (n := 6) (by decide) (by omega))
    · exact this

def blkZ (m : Int) (zs : List Int) : Int := if famIn m zs then ((blkS m.toNat zs (List.range m.toNat) : Nat) : Int) else 0
set_option maxRecDepth 100000 in
set_option maxHeartbeats 8000000 in
theorem specSpeakerBlocked_any (m : Int) (a : Option Addr) (c : Nat) (zs : List Int) (w : World) (ha : Ints w w.heap.size a zs) (hx : zs.length ≤ 1048576) :
    Calls Tryd.prog 7 #[.agg #[.int .i64 m, .slice a zs.length c]] w (RetIB w (blkZ m zs) (famIn m zs)) := by
  have HB0 := Lib.hid (below1 w (.cells #[.int .i64 m, .slice a zs.length c] 25))
  have HA := Lib.hid (ha.below HB0.out)
  clear ha
  unfold blkZ
  cases hf : famIn m zs
  · have HF := Lib.hid hf
    clear hf
    go_enter Tryd.func7, Tryd.ntmps7
    go_wp2_with fail
    refine (specFamilyIn_any _ _ _ zs _ (HA.out.mono (by simp)) hx).mono ?_
    rintro e w1 ⟨rfl, hb⟩
    rw [HF.out]
    have HB := Lib.hid (HB0.out.trans (hb.mono (by simp)))
    clear hb
    go_wp2
    go_ret2
    exact ⟨rfl, HB.out⟩
  · have HF := Lib.hid hf
    obtain ⟨k, rfl, hk1, hk6, hset, hl8⟩ := fam_nat2 hf
    have hk1I : (1 : Int) ≤ (k : Int) := by omega
    have hk6I : (k : Int) ≤ 6 := by omega
    have hp64 : 2 ^ k ≤ 64 := Nat.pow_le_pow_right (n := 2) (by decide) hk6
    have hpp : 0 < 2 ^ k := Nat.two_pow_pos k
    have HFU : Hid (fullI (k : Int) = ((2 ^ k - 1 : Nat) : Int)) := Lib.hid (by unfold fullI; rw [cast_full]; simp)
    have HZ6 : Hid (∀ z ∈ zs, 0 ≤ z ∧ z.toNat < 64) := Lib.hid (fun z h => ⟨(hset z h).1, p64 hk6 (hset z h).2⟩)
    have HZ : Hid (blkS ((k : Int)).toNat zs (List.range ((k : Int)).toNat) = blkS k zs (List.range k)) := Lib.hid (by rw [Int.toNat_natCast])
    have HSN : Hid (∀ v, blkS k zs (List.range (v + 1)) = if matM zs (woP (2 ^ k - 1) v) < matM zs (2 ^ k - 1) then blkS k zs (List.range v) ||| 2 ^ v else blkS k zs (List.range v)) := Lib.hid (fun v => by rw [List.range_succ, blkS_snoc])
    have HBL := Lib.hid (blkS_lt k zs)
    have HML : Hid (∀ L, L < 64 → matM zs L ≤ 8) := Lib.hid (fun L h => Nat.le_trans (matM_le zs L h) hl8)
    obtain ⟨FU, hFU⟩ : ∃ FU, FU = 2 ^ k - 1 := ⟨_, rfl⟩
    have hFU64 : FU < 64 := by omega
    rw [← hFU] at HFU HSN
    rw [HZ.out]
    have HFI := Lib.hid (specFamilyIn_any (k : Int) a c zs _ (HA.out.mono (show w.heap.size ≤ (w.alloc (.cells #[.int .i64 (k : Int), .slice a zs.length c] 25)).heap.size by simp)) hx)
    obtain ⟨Y, hY⟩ : ∃ Y, Y = zs.length := ⟨_, rfl⟩
    have HL5 : Hid (∀ (W : World) (u : Nat), Ints W W.heap.size a zs → u < 64 → Calls Tryd.prog 23 #[.slice a Y c, .int .i64 0, .int .i64 (u : Int)] W fun e w' => e = .returned (.int .i64 ((matM zs u : Nat) : Int)) ∧ W = w') := Lib.hid (by
      rw [hY]
      exact fun W u hi hu => l5Pairs_any a c zs W hi hl8 HZ6.out zs 0 rfl (Nat.zero_le _) u hu)
    rw [← hY] at HFI HA HB0 ⊢
    obtain ⟨M, hM⟩ : ∃ M, M = matM zs FU := ⟨_, rfl⟩
    have hM8 : M ≤ 8 := by rw [hM]; exact HML.out FU hFU64
    have HM := Lib.hid hM
    clear hf hp64 hpp hFU hset hl8 hY hM
    go_enter Tryd.func7, Tryd.ntmps7
    go_wp2_with fail
    refine HFI.out.mono ?_
    rintro e w1 ⟨rfl, hb⟩
    rw [HF.out]
    have b0 : w1.heap[w.heap.size]? = some (.cells #[.int .i64 (k : Int), .slice a Y c] 25 (0, 0)) := (hb.block _ (by simp)).trans (alloc_new w _)
    have x0 := (blk_cell b0 0).trans (cell2_0 _ _)
    have x1 := (blk_cell b0 1).trans (cell2_1 _ _)
    have B0 := Lib.hid b0
    have hs1 : w.heap.size < w1.heap.size := lt_of_some b0
    have HB := Lib.hid (HB0.out.trans (hb.mono (by simp)))
    have HI1 := Lib.hid ((HA.out.below (hb.mono (by simp))).mono (show w.heap.size ≤ w1.heap.size by omega))
    clear hb b0
    go_wp2_with fail
    go_region_held3 (fun w' => w'.cell? ⟨w.heap.size, 0, none⟩ = some (.int .i64 (k : Int)) ∧ w'.cell? ⟨w.heap.size, 1, none⟩ = some (.slice a Y c))
      (first
        | exact ⟨x0, x1⟩
        | exact ⟨(hb2.cell (p := ⟨w.heap.size, 0, none⟩) hs1).trans x0, (hb2.cell (p := ⟨w.heap.size, 1, none⟩) hs1).trans x1⟩)
      (first
        | (go_at_call 24; refine (l1All_b (k : Int) a Y c _ hk1I hk6I).mono ?_; rintro e w2 ⟨rfl, hb2⟩; rw [HFU.out])
        | (go_at_call 23; refine (HL5.out _ FU (((show Ints w1.drew w1.drew.heap.size a zs from HI1.out).below hb2).mono hb2.size) hFU64).mono ?_; rw [← HM.out]; rintro e w4 ⟨rfl, rfl⟩))
    rename_i hHeldX
    clear hHeldX x0 x1
    have HB2 : Hid (Below w1.heap.size w1 w2) := Lib.hid ⟨hb2.os, hb2.tape, hb2.output, hb2.size, hb2.block⟩
    clear hb2
    go_wp2
    go_loopw [4, 6] (fun s i wr => ∃ v S : Nat, v ≤ k ∧ i = .int .i64 (v : Int) ∧ s = .int .i64 (S : Int) ∧ S = blkS k zs (List.range v) ∧ Below w1.heap.size w1 wr) (fun _ i _ => k - (intOf i).toNat)
    case atStart => exact ⟨0, 0, Nat.zero_le _, rfl, rfl, rfl, HB2.out⟩
    case round =>
      obtain ⟨v, S, hv, rfl, rfl, hS, hb⟩ := hrel
      have hS64 : S < 64 := by rw [hS]; exact HBL.out v (by omega)
      have HS := Lib.hid hS
      have b := (hb.block _ hs1).trans B0.out
      have x0 := (blk_cell b 0).trans (cell2_0 _ _)
      have x1 := (blk_cell b 1).trans (cell2_1 _ _)
      have HBR := Lib.hid hb
      have hsr := hb.size
      have HIr := Lib.hid ((HI1.out.below hb).mono hb.size)
      clear hS hb b
      by_cases hlt : v < k
      · have hsn := HSN.out v
        rw [← HS.out, ← HM.out] at hsn
        have hp2 := p2_small v (by omega)
        have hpw : IntKind.i64.wrap ((2 : Int) ^ v) = (2 : Int) ^ v := by rw [IntKind.wrap_i64]; omega
        have han := andN_at hFU64 (show v < 6 by omega)
        have hwl := woP_lt (v := v) hFU64
        have hv0 : (0 : Int) ≤ (v : Int) := by omega
        have hv64 : (v : Int) < 64 := by omega
        have hvI : (v : Int) < (k : Int) := by omega
        obtain ⟨x, hx2⟩ : ∃ x, x = woP FU v := ⟨_, rfl⟩
        rw [← hx2] at han hwl hsn
        obtain ⟨P, hP⟩ : ∃ P, P = matM zs x := ⟨_, rfl⟩
        have HP := Lib.hid hP
        rw [← hP] at hsn
        have hor := orP_at hS64 (show v < 6 by omega)
        have hsv : w.heap.size < wr.drew.heap.size := by show w.heap.size < wr.heap.size; omega
        clear hx2 hP
        by_cases hPM : P < M
        · have HE : Hid (S ||| 2 ^ v = blkS k zs (List.range (v + 1))) := Lib.hid (by rw [hsn, if_pos hPM])
          have hPMI : (P : Int) < (M : Int) := by omega
          clear hsn
          go_wp2
          go_region_held3 (fun w' => w'.cell? ⟨w.heap.size, 0, none⟩ = some (.int .i64 (k : Int)) ∧ w'.cell? ⟨w.heap.size, 1, none⟩ = some (.slice a Y c))
            (first
              | exact ⟨x0, x1⟩
              | exact ⟨(hb2.cell (p := ⟨w.heap.size, 0, none⟩) hsv).trans x0, (hb2.cell (p := ⟨w.heap.size, 1, none⟩) hsv).trans x1⟩)
            (first
              | (go_at_call 24; refine (l1All_b (k : Int) a Y c _ hk1I hk6I).mono ?_; rintro e w5 ⟨rfl, hb2⟩; rw [HFU.out])
              | (go_at_call 23; refine (HL5.out _ x (((show Ints wr.drew wr.drew.heap.size a zs from HIr.out).below hb2).mono hb2.size) hwl).mono ?_; rw [← HP.out]; rintro e w6 ⟨rfl, rfl⟩))
          rename_i hHeldX
          clear hHeldX x0 x1
          have HB5 : Hid (Below w1.heap.size w1 w5) := Lib.hid (HBR.out.drew.trans (hb2.mono (by show w1.heap.size ≤ wr.heap.size; omega)))
          clear hb2
          go_wp2
          go_roundw
          case rel => exact ⟨v + 1, S ||| 2 ^ v, by omega, by go_num, rfl, HE.out, HB5.out⟩
          case measure => simp [intOf]; omega
        · have HE : Hid (S = blkS k zs (List.range (v + 1))) := Lib.hid (by rw [hsn, if_neg hPM])
          have hPMI : ¬ ((P : Int) < (M : Int)) := by omega
          clear hsn
          go_wp2
          go_region_held3 (fun w' => w'.cell? ⟨w.heap.size, 0, none⟩ = some (.int .i64 (k : Int)) ∧ w'.cell? ⟨w.heap.size, 1, none⟩ = some (.slice a Y c))
            (first
              | exact ⟨x0, x1⟩
              | exact ⟨(hb2.cell (p := ⟨w.heap.size, 0, none⟩) hsv).trans x0, (hb2.cell (p := ⟨w.heap.size, 1, none⟩) hsv).trans x1⟩)
            (first
              | (go_at_call 24; refine (l1All_b (k : Int) a Y c _ hk1I hk6I).mono ?_; rintro e w5 ⟨rfl, hb2⟩; rw [HFU.out])
              | (go_at_call 23; refine (HL5.out _ x (((show Ints wr.drew wr.drew.heap.size a zs from HIr.out).below hb2).mono hb2.size) hwl).mono ?_; rw [← HP.out]; rintro e w6 ⟨rfl, rfl⟩))
          rename_i hHeldX
          clear hHeldX x0 x1
          have HB5 : Hid (Below w1.heap.size w1 w5) := Lib.hid (HBR.out.drew.trans (hb2.mono (by show w1.heap.size ≤ wr.heap.size; omega)))
          clear hb2
          go_wp2
          go_roundw
          case rel => exact ⟨v + 1, S, by omega, by go_num, rfl, HE.out, HB5.out⟩
          case measure => simp [intOf]; omega
      · obtain rfl : v = k := by omega
        have HR := Lib.hid (HB.out.trans (HBR.out.mono (show w.heap.size ≤ w1.heap.size by omega)))
        go_wp2
        go_ret2
        exact ⟨by rw [← HS.out]; rfl, HR.out⟩

end Go.Proofs.YtgaappbcekllhaaDoor

/- It is proved what FamilyCommon of the program and of the model return; conditions: those of each statement. -/
namespace Go.Proofs.YtgaappbcekllhaaDoor
open Go.RowKit Go.Shelf

attribute [local go_sem] Oper.semAt_some

theorem full_any (m : Int) (a : Option Addr) (n cap : Nat) (w : World) (h1 : 1 ≤ m) (h2 : m ≤ 6) :
    Calls Tryd.prog 18 #[.agg #[.int .i64 m, .slice a n cap]] w fun e w' => e = .returned (.int .i64 (fullI m)) ∧ w' = w.alloc (.cells #[.int .i64 m, .slice a n cap] 25) := by
  rcases m16 h1 h2 with rfl | rfl | rfl | rfl | rfl | rfl
  all_goals
    go_enter Tryd.func18, Tryd.ntmps18
    go_wp2
    go_ret
    exact ⟨rfl, rfl⟩

end Go.Proofs.YtgaappbcekllhaaDoor

/- It is proved that reducing a family leads to one family only, in whatever order it is done; conditions: those of each statement. -/
namespace Go.Proofs.YtgaappbcekllhaaDoor
open Go.RowKit

def Bt (v : Nat) (z : Int) : Bool := z.toNat.testBit v
/-- A set without a member. -/
def woZ (v : Nat) (z : Int) : Int := ((woP z.toNat v : Nat) : Int)

/-- A member that just one set has. -/
def D1 (v : Nat) (G : List Int) : Prop := ∃ x ∈ G, Bt v x = true ∧ ∀ y ∈ G, Bt v y = true → y = x

end Go.Proofs.YtgaappbcekllhaaDoor

/- It is proved what the method mapped returns, by which closure it may be called; conditions: those of the statement. -/
namespace Go.Proofs.YtgaappbcekllhaaDoor
open Go.RowKit Go.Shelf

attribute [local go_sem] Oper.semAt_some

/-- The clubs with their places, behind what is known of them. -/
def fstOf {P : Nat × Int → Prop} (ys : List { p // P p }) : List (Nat × Int) := ys.map (·.1)

theorem fstOf_snoc {P : Nat × Int → Prop} (ys : List { p // P p }) (y : { p // P p }) : fstOf (ys ++ [y]) = fstOf ys ++ [y.1] := by simp [fstOf]
theorem fstOf_length {P : Nat × Int → Prop} (ys : List { p // P p }) : (fstOf ys).length = ys.length := by simp [fstOf]
end Go.Proofs.YtgaappbcekllhaaDoor
