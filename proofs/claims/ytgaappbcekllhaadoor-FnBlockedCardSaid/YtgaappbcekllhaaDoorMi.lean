/- It is proved what SpeakerBlocked of the program returns; conditions: those of each statement. -/
import Derived.RowKit
import Derived.Laws.CopyRow
import Derived.Lib.SlBuf
import Derived.Deep.QuietTactic
import Derived.RangeFuncNested
import Derived.RangeFuncBound
import Derived.RangeFuncCalls
import Derived.RangeFuncLeaves
import Derived.RangeFuncBox
import Derived.RangeFuncWrites
import Derived.StillTailTactics
import Derived.Maps.OwnIn
import Derived.Maps.Ext
import Derived.DeepKeys4
import Derived.MapKept
import Derived.Test.YtgaappbcekllhaaDoorRows
import Derived.WalkKit
import Derived.WalkSpells
import Derived.ProofKit
import Derived.OpenShut
import Derived.ShutString
import Derived.ChangeOld
import Derived.Below
import Derived.Deep.RegionHeld3
import Derived.BigQuiet
import Derived.Lib.Hide
import Derived.Lib.SmallJoins
import Derived.Outline
import Derived.Laws.MakeOwn
import Derived.Laws.OwnMore
import Derived.IntWalk
import Derived.Maps.AppendAt
import Derived.Lib.AppendZeros
import Derived.Deep.AppendLies
import Derived.OwnWalk
import Derived.Lib.SlicesCompact
import Derived.Lib.OwnBridge
import Derived.OrdersIn
import Derived.TacticsIn
import Derived.Shelf.Sort.Plain
import Derived.Shelf.Slices.In.SortNone
import Derived.Shelf.Slices.CompactI
import Derived.Ground.Names2Prog
import Derived.Lib.SliceRun
import Derived.Shelf.RegionOpen
import Derived.Shelf.Abstract
import Derived.OwnWalkIn
import Derived.TacticsInMore
import Derived.LoopNIn
import Derived.LoopIn
import Derived.StillTail
import Derived.StillTactics
import Derived.Shelf.Spec.TrailingZeros
import Derived.Test.YtgaappbcekllhaaDoorCaad
import Derived.Test.YtgaappbcekllhaaDoorCaaa
import Derived.Test.YtgaappbcekllhaaDoorCaab
import Derived.Test.YtgaappbcekllhaaDoorCaac
import Derived.Test.YtgaappbcekllhaaDoorCaaf
import Derived.Test.YtgaappbcekllhaaDoorCaag
import Derived.Test.YtgaappbcekllhaaDoorCaah
import Derived.Test.YtgaappbcekllhaaDoorMa
import Derived.Test.YtgaappbcekllhaaDoorCaal
import Derived.Test.YtgaappbcekllhaaDoorCaam
import Derived.Test.YtgaappbcekllhaaDoorCaao
import Derived.Test.YtgaappbcekllhaaDoorCaae
import Derived.Test.YtgaappbcekllhaaDoorYc
namespace Go.Proofs.YtgaappbcekllhaaDoor
open Go.RowKit Go.Shelf

attribute [local go_sem] Oper.semAt_some

set_option maxRecDepth 100000 in
theorem memfull_fin : ∀ k : Fin 7, memK 8 (2 ^ k.val - 1) = List.range k.val := by decide +kernel

set_option maxRecDepth 100000 in
set_option maxHeartbeats 4000000 in
theorem implSpeakerBlocked_any (m : Int) (a : Option Addr) (c : Nat) (zs : List Int) (w : World) (ha : Ints w w.heap.size a zs) (hT : Tab w) (hx : zs.length ≤ 1048576) :
    Calls Tryd.prog 6 #[.agg #[.int .i64 m, .slice a zs.length c]] w (RetIB w (blkZ m zs) (famIn m zs)) := by
  have HB0 := Lib.hid (below1 w (.cells #[.int .i64 m, .slice a zs.length c] 25))
  have HA := Lib.hid (ha.below HB0.out)
  have HA0 := Lib.hid ha
  clear ha
  unfold blkZ
  cases hf : famIn m zs
  · have HF := Lib.hid hf
    clear hf
    go_enter Tryd.func6, Tryd.ntmps6
    go_wp2_with fail
    refine (implFamilyIn_any _ _ _ zs _ (HA.out.mono (by simp)) hx).mono ?_
    rintro e w1 ⟨rfl, hb⟩
    rw [HF.out]
    have HB := Lib.hid (HB0.out.trans (hb.mono (by simp)))
    clear hb
    go_wp2
    go_ret2
    exact ⟨rfl, HB.out⟩
  · have HF := Lib.hid hf
    obtain ⟨k, rfl, hk1, hk6, hset, hl8⟩ := fam_nat2 hf
    have hk1I : (1 : Int) ≤ (k : Int) := by omega
    have hk6I : (k : Int) ≤ 6 := by omega
    have HFU : Hid (fullI (k : Int) = ((2 ^ k - 1 : Nat) : Int)) := Lib.hid (by unfold fullI; rw [cast_full]; simp)
    have HSET := Lib.hid hset
    have HZ : Hid (blkS ((k : Int)).toNat zs (List.range ((k : Int)).toNat) = blkS k zs (List.range k)) := Lib.hid (by rw [Int.toNat_natCast])
    have HFI := Lib.hid (implFamilyIn_any (k : Int) a c zs _ (HA.out.mono (show w.heap.size ≤ (w.alloc (.cells #[.int .i64 (k : Int), .slice a zs.length c] 25)).heap.size by simp)) hx)
    obtain ⟨n, hn⟩ : ∃ n, n = zs.length := ⟨_, rfl⟩
    have HN := Lib.hid hn
    have hT1 := hT.lt
    have HT := Lib.hid hT
    have h16 : 1 ≤ 6 := by omega
    have hmx : Tryd.prog.follows .mixedOrders = true := by kernel_rfl
    have hn8 : n ≤ 8 := by omega
    have hp64 : 2 ^ k ≤ 64 := Nat.pow_le_pow_right (n := 2) (by decide) hk6
    have hpp : 0 < 2 ^ k := Nat.two_pow_pos k
    have HMF := Lib.hid (memfull_fin ⟨k, by omega⟩)
    simp only at HMF
    have HSN : Hid (∀ ps v, blkS k zs (ps ++ [v]) = if matM zs (woP (2 ^ k - 1) v) < matM zs (2 ^ k - 1) then blkS k zs ps ||| 2 ^ v else blkS k zs ps) := Lib.hid (blkS_snoc k zs)
    have HPA : Hid (∀ W, Ints W W.heap.size a zs → Tab W → Calls Tryd.prog 17 #[.agg #[.int .i64 (k : Int), .slice a n c]] W fun e w' => e = .returned (.int .i64 ((matM zs (2 ^ k - 1) : Nat) : Int)) ∧ Below W.heap.size W w') := Lib.hid (by rw [hn]; exact fun W hi ht => pairs_any k hk6 a c zs W hi hl8 hset ht)
    have HPW : Hid (∀ (v : Nat) W, v < 6 → Ints W W.heap.size a zs → Calls Tryd.prog 20 #[.agg #[.int .i64 (k : Int), .slice a n c], .int .i64 (v : Int)] W (RetFam W (k : Int) (zs.map (woZ v)))) := Lib.hid (by rw [hn]; exact fun v W hv hi => takenOut_any k hk1 hk6 a c zs v hv W hi (by omega) hset)
    have HPB : Hid (∀ (v : Nat) b d W, Ints W W.heap.size b (zs.map (woZ v)) → Tab W → Calls Tryd.prog 17 #[.agg #[.int .i64 (k : Int), .slice b (zs.map (woZ v)).length d]] W fun e w' => e = .returned (.int .i64 ((matM zs (woP (2 ^ k - 1) v) : Nat) : Int)) ∧ Below W.heap.size W w') := Lib.hid (fun v b d W hi ht => by
      rw [← matM_cut]
      exact pairs_any k hk6 b d (cutL v zs) W hi (by unfold cutL; rw [List.length_map]; omega) (cut_sets hset) ht)
    rw [HZ.out]
    rw [← hn] at HA HB0 HFI ⊢
    obtain ⟨FU, hFU⟩ : ∃ FU, FU = 2 ^ k - 1 := ⟨_, rfl⟩
    have hFU64 : FU < 64 := by omega
    rw [← hFU] at HFU HMF HSN HPA HPB
    have HML : Hid (∀ L, L < 64 → matM zs L ≤ 8) := Lib.hid (fun L h => Nat.le_trans (matM_le zs L h) hl8)
    obtain ⟨M, hM⟩ : ∃ M, M = matM zs FU := ⟨_, rfl⟩
    have hM8 : M ≤ 8 := by rw [hM]; exact HML.out FU hFU64
    rw [← hM] at HSN HPA
    clear hf hset hn hT hp64 hpp hFU hl8 hM
    refine (callsIn_wide (n := 6)).1 ?_
    refine callsIn_of_wp_marks Tryd.func6 rfl trivial ?_ rfl
    simp only [Tryd.ntmps6, List.size_toArray, List.length_cons, List.length_nil, Nat.reduceAdd, Nat.reduceSub, Array.replicate_succ, Array.replicate_zero, List.push_toArray, List.append_toArray, List.nil_append, List.cons_append]
    gi_wp2_with fail
    refine ⟨trivial, ?_⟩
    refine (callsIn_wide.2 HFI.out).mono ?_
    rintro e w1 ⟨rfl, hb⟩
    rw [HF.out]
    have b0 : w1.heap[w.heap.size]? = some (.cells #[.int .i64 (k : Int), .slice a n c] 25 (0, 0)) := (hb.block _ (by simp)).trans (alloc_new w _)
    have x0 := (blk_cell b0 0).trans (cell2_0 _ _)
    have x1 := (blk_cell b0 1).trans (cell2_1 _ _)
    have z1 : w.heap.size < w1.heap.size := lt_of_some b0
    have HB1 := Lib.hid (HB0.out.trans (hb.mono (by simp)))
    have HI1 := Lib.hid ((HA.out.below (hb.mono (by simp))).mono (show w.heap.size ≤ w1.heap.size by omega))
    have B0 := Lib.hid b0
    clear hb b0
    gi_wp2_with fail
    refine ⟨trivial, ?_⟩
    refine (callsIn_wide.2 (HPA.out w1 HI1.out (HT.out.below HB1.out hT1))).mono ?_
    rintro e w2 ⟨rfl, hb2⟩
    have z2 : w.heap.size < w2.heap.size := Nat.lt_of_lt_of_le z1 hb2.size
    have q0 : HasBlk w2 w.heap.size #[.int .i64 (k : Int), .slice a n c] 25 := (hb2.block _ z1).trans B0.out
    obtain ⟨W3, hW3, p0, p1, p2, hs3, hb3⟩ : ∃ W3, (w2.alloc (.cells #[.int .i64 (M : Int)] 3)).alloc (.cells #[.int .i64 0] 40) = W3 ∧ HasBlk W3 w.heap.size #[.int .i64 (k : Int), .slice a n c] 25 ∧ HasBlk W3 w2.heap.size #[.int .i64 (M : Int)] 3 ∧ HasBlk W3 (w2.heap.size + 1) #[.int .i64 0] 40 ∧ W3.heap.size = w2.heap.size + 1 + 1 ∧ Below w2.heap.size w2 W3 :=
      ⟨_, rfl, (HasBlk.alloc q0 _).alloc _, alloc2_0 w2 _ _, alloc2_1 w2 _ _, by simp, below2 w2 _ _⟩
    have y0 := (blk_cell p0 0).trans (cell2_0 _ _)
    have y1 := (blk_cell p0 1).trans (cell2_1 _ _)
    rw [← hW3] at y0 y1
    obtain ⟨W4, hW4, r3, hs4, hb4⟩ : ∃ W4, (W3.alloc (.cells #[.int .i64 (k : Int), .slice a n c] 25)).alloc (.cells #[.int .i64 (FU : Int)] 40) = W4 ∧ HasBlk W4 (w2.heap.size + 1 + 1 + 1) #[.int .i64 (FU : Int)] 40 ∧ W4.heap.size = W3.heap.size + 1 + 1 ∧ Below W3.heap.size W3 W4 :=
      ⟨_, rfl, by have := alloc2_1 W3 (.cells #[.int .i64 (k : Int), .slice a n c] 25) (.cells #[.int .i64 (FU : Int)] 40); rwa [hs3] at this, by simp, below2 W3 _ _⟩
    have hb24 := hb3.trans (hb4.mono (show w2.heap.size ≤ W3.heap.size by omega))
    have hbw4 := (HB1.out.trans (hb2.mono (by omega))).trans (hb24.mono (show w.heap.size ≤ w2.heap.size by omega))
    have hst := membersW_stops (6 - 1) (by omega) (w2.heap.size + 1 + 1 + 1) w.heap.size FU (by omega) W4 (by omega) (by omega) (by omega) ((blk_cell r3 0).trans (cell1_0 _)) (HT.out.below hbw4 hT1)
    have HST := Lib.hid hst
    have HQ0 : Hid (HasBlk W4 w.heap.size #[.int .i64 (k : Int), .slice a n c] 25) := Lib.hid ((hb4.block _ (by omega)).trans p0)
    have HQ1 : Hid (HasBlk W4 w2.heap.size #[.int .i64 (M : Int)] 3) := Lib.hid ((hb4.block _ (by omega)).trans p1)
    have HQ2 : Hid (HasBlk W4 (w2.heap.size + 1) #[.int .i64 0] 40) := Lib.hid ((hb4.block _ (by omega)).trans p2)
    have HB4 := Lib.hid hbw4
    have HW3 := Lib.hid hW3
    have HW4 := Lib.hid hW4
    have HS3 := Lib.hid hs3
    have HS4 := Lib.hid hs4
    have Z2 := Lib.hid z2
    clear hb2 q0 hW3 p0 p1 p2 hs3 hb3 hW4 r3 hs4 hb4 hb24 hbw4 hst z1 z2 x0 x1
    gi_wp2_with (first
      | (refine ⟨trivial, ?_⟩; gi_at_call 18; refine (callsIn_wide.2 (full_any (k : Int) a n c _ hk1I hk6I)).mono ?_; rw [HFU.out]; rintro e w' ⟨rfl, rfl⟩)
      | (refine ⟨trivial, ?_⟩; gi_at_call 19; refine (callsIn_wide.2 (members_any _ _)).mono ?_; rintro e w' ⟨rfl, rfl⟩))
    rw [HW3.out, HW4.out]
    refine wpIn_rangeFunc_ownG rfl h16 (gf := 37) (lb := #[.pointer (some ⟨w2.heap.size + 1 + 1 + 1, 0, none⟩)]) rfl trivial (enters_of Tryd.func37 (by kernel_rfl) rfl)
      HST.out belowK_t (belowK_b (by have := HS3.out; have := HS4.out; have := Z2.out; omega)) (Below.refl _ _) (fun _ => rfl)
      (fun pre W => (HasBlk W w.heap.size #[.int .i64 (k : Int), .slice a n c] 25 ∧ HasBlk W w2.heap.size #[.int .i64 (M : Int)] 3 ∧ HasBlk W (w2.heap.size + 1) #[.int .i64 ((blkS k zs (valsW pre) : Nat) : Int)] 40 ∧ blkS k zs (valsW pre) < 64) ∧ Below w.heap.size w W)
      (fun _ _ _ => False)
      ?own (fun _ _ _ _ _ hs _ _ => hs)
      ⟨⟨HQ0.out, HQ1.out, HQ2.out, (show (0 : Nat) < 64 by decide)⟩, HB4.out⟩
      (fun x => { tmps := #[.agg #[.int .i64 (k : Int), .slice a n c], .pointer (some ⟨w.heap.size, 0, none⟩), .int .i64 0, .bool false, .pointer (some ⟨w2.heap.size, 0, none⟩), .pointer (some ⟨w2.heap.size + 1, 0, none⟩), .int .i64 (x.1 : Int), .agg #[.int .i64 (k : Int), .slice a n c], .bool true, .bool false, .agg #[.int .i64 (k : Int), .slice a n c], .int .i64 (M : Int), .agg #[.int .i64 (k : Int), .slice a n c], .int .i64 (FU : Int), .func (.func 37) #[] #[.pointer (some ⟨w2.heap.size + 1 + 1 + 1, 0, none⟩)], .int .i64 (x.1 : Int), undef, undef, undef, undef, undef, undef, undef, undef, undef, undef], defers := [] }) ?assign ?body ?done ?stop
    case own =>
      rintro s A B row ⟨⟨h1, h2, h3, h4⟩, h5⟩ hg hr
      have hr' : ∀ (b : Nat) (cs : Array Value) (t : TypeId), HasBlk A b cs t → row ≠ some b := fun b cs t hb e => by
        obtain ⟨-, o, ho, hc⟩ := hr b e
        rw [show A.heap[b]? = _ from hb] at ho; cases ho; cases hc
      exact ⟨⟨h1.kept hg (hr' _ _ _ h1), h2.kept hg (hr' _ _ _ h2), h3.kept hg (hr' _ _ _ h3), h4⟩, h5.grown hg (by have := h5.size; omega) (fun r e => by have := (hr r e).1; have := HS3.out; have := HS4.out; have := Z2.out; omega)⟩
    case assign =>
      intro l x W K hK
      gi_wp2
      exact hK
    case body =>
      rintro l pre ⟨x, hxm⟩ W ⟨⟨h1, h2, h3, h4⟩, hB⟩ hlt
      obtain ⟨xx, hxx⟩ : ∃ xx : MemW FU, xx = ⟨x, hxm⟩ := ⟨_, rfl⟩
      have hxk : x < k := by rw [HMF.out] at hxm; exact List.mem_range.1 hxm
      have hpw := HPW.out x W.drew (by omega) (show Ints W W.heap.size a zs from (HA0.out.below hB).mono hB.size)
      have hpb := HPB.out x
      obtain ⟨zv, hzv⟩ : ∃ zv, zv = zs.map (woZ x) := ⟨_, rfl⟩
      rw [← hzv] at hpw hpb
      have HTW := Lib.hid (show Tab W.drew from (show Tab W from HT.out.below hB hT1))
      have hsn : blkS k zs (valsW (pre ++ [xx])) = if matM zs (woP FU x) < M then blkS k zs (valsW pre) ||| 2 ^ x else blkS k zs (valsW pre) := by rw [valsW_snoc, hxx, HSN.out]
      obtain ⟨S, hS⟩ : ∃ S, S = blkS k zs (valsW pre) := ⟨_, rfl⟩
      obtain ⟨P, hP⟩ : ∃ P, P = matM zs (woP FU x) := ⟨_, rfl⟩
      rw [← hS] at h3 h4 hsn
      rw [← hP] at hpb hsn
      have HPW1 := Lib.hid hpw
      have HPB1 := Lib.hid hpb
      have hor64 : S ||| 2 ^ x < 64 := Nat.or_lt_two_pow (n := 6) h4 (Nat.pow_lt_pow_right (a := 2) (m := x) (n := 6) (by decide) (by omega))
      have HOR64 := Lib.hid hor64
      have HS64 := Lib.hid h4
      have hx8 : x < 8 := by omega
      have x0 := (blk_cell h1 0).trans (cell2_0 _ _)
      have x1 := (blk_cell h1 1).trans (cell2_1 _ _)
      have p0 := (blk_cell h2 0).trans (cell1_0 _)
      have H1 := Lib.hid h1
      have H2 := Lib.hid h2
      have H3 := Lib.hid h3
      have HB := Lib.hid hB
      have hl2 : w2.heap.size < W.drew.heap.size := lt_of_some h2
      dsimp only
      rw [← hxx]
      clear h1 h2 h3 h4 hB hxm hxx hpw hpb hzv hS hP hor64
      by_cases hPM : P < M
      · have HE : Hid (blkS k zs (valsW (pre ++ [xx])) = S ||| 2 ^ x) := Lib.hid (by rw [hsn, if_pos hPM])
        have hPMI : (P : Int) < (M : Int) := by omega
        clear hsn hPM
        gi_wp2
        gi_region_with_o (first
          | (refine ⟨trivial, ?_⟩; gi_at_call 20; refine (CallsIn.inRound l (callsIn_wide.2 HPW1.out)).mono ?_; rintro e w51 ⟨a5, c5, rfl, ho5, hb51⟩; have e0 := (hb51.cell (p := ⟨w2.heap.size, 0, none⟩) hl2).trans p0; have HI51 := Lib.hid (own_ints ho5); have HB51 := Lib.hid hb51; clear ho5 hb51)
          | (refine ⟨trivial, ?_⟩; gi_at_call 17; refine (CallsIn.inRound l (callsIn_wide.2 (HPB1.out _ _ _ HI51.out (HTW.out.step HB51.out)))).mono ?_; rintro e w5 ⟨rfl, hb52⟩; have hb5 := HB51.out.trans (hb52.mono HB51.out.size); clear hb52; have e1 := (hb5.cell (p := ⟨w2.heap.size, 0, none⟩) hl2).trans p0))
        all_goals
          have HB5 : Hid (Below W.heap.size W w5) := Lib.hid ⟨hb5.os, hb5.tape, hb5.output, hb5.size, hb5.block⟩
          clear hb5
          have h3' : HasBlk w5 (w2.heap.size + 1) #[.int .i64 (S : Int)] 40 := (HB5.out.block _ (lt_of_some H3.out)).trans H3.out
          have c3 := (blk_cell h3' 0).trans (cell1_0 _)
          have f3 := blk_frozen h3' 0
          have H3' := Lib.hid h3'
          have HWA := Lib.hid (with_any S x (Nat.lt_trans HS64.out (by decide)) hx8 w5)
          clear h3'
          gi_wp2_with (refine ⟨trivial, ?_⟩; gi_at_call 21; refine (CallsIn.inRound l (callsIn_wide.2 HWA.out)).mono ?_; rintro e w' ⟨rfl, rfl⟩)
          have h1' : HasBlk w5 w.heap.size #[.int .i64 (k : Int), .slice a n c] 25 := (HB5.out.block _ (lt_of_some H1.out)).trans H1.out
          have h2' : HasBlk w5 w2.heap.size #[.int .i64 (M : Int)] 3 := (HB5.out.block _ (lt_of_some H2.out)).trans H2.out
          have hks : KeepsFrom W4.heap.size W w5 := ⟨HB5.out.size, fun k o _ hk _ => (HB5.out.block k (lt_of_some hk)).trans hk⟩
          have hbw5 : Below w.heap.size W w5 := HB5.out.mono HB.out.size
          refine ⟨hks.trans ((KeepsOthers.setCell _ _ _).from _), hbw5.setCell (p := ⟨w2.heap.size + 1, 0, none⟩) (by have := Z2.out; show w.heap.size ≤ w2.heap.size + 1; omega) _, ⟨HasBlk.far h1' (show w.heap.size ≠ w2.heap.size + 1 by have := Z2.out; omega) _, HasBlk.far h2' (show w2.heap.size ≠ w2.heap.size + 1 by omega) _, ?_, by rw [HE.out]; exact HOR64.out⟩, (HB.out.trans hbw5).setCell (p := ⟨w2.heap.size + 1, 0, none⟩) (by have := Z2.out; show w.heap.size ≤ w2.heap.size + 1; omega) _⟩
          rw [HE.out]
          exact Boxed.set _ H3'.out
      · have HE : Hid (blkS k zs (valsW (pre ++ [xx])) = S) := Lib.hid (by rw [hsn, if_neg hPM])
        have hPMI : ¬ ((P : Int) < (M : Int)) := by omega
        clear hsn hPM
        gi_wp2
        gi_region_with_o (first
          | (refine ⟨trivial, ?_⟩; gi_at_call 20; refine (CallsIn.inRound l (callsIn_wide.2 HPW1.out)).mono ?_; rintro e w51 ⟨a5, c5, rfl, ho5, hb51⟩; have e0 := (hb51.cell (p := ⟨w2.heap.size, 0, none⟩) hl2).trans p0; have HI51 := Lib.hid (own_ints ho5); have HB51 := Lib.hid hb51; clear ho5 hb51)
          | (refine ⟨trivial, ?_⟩; gi_at_call 17; refine (CallsIn.inRound l (callsIn_wide.2 (HPB1.out _ _ _ HI51.out (HTW.out.step HB51.out)))).mono ?_; rintro e w5 ⟨rfl, hb52⟩; have hb5 := HB51.out.trans (hb52.mono HB51.out.size); clear hb52; have e1 := (hb5.cell (p := ⟨w2.heap.size, 0, none⟩) hl2).trans p0))
        all_goals
          have HB5 : Hid (Below W.heap.size W w5) := Lib.hid ⟨hb5.os, hb5.tape, hb5.output, hb5.size, hb5.block⟩
          clear hb5
          gi_wp2
          have h1' : HasBlk w5 w.heap.size #[.int .i64 (k : Int), .slice a n c] 25 := (HB5.out.block _ (lt_of_some H1.out)).trans H1.out
          have h2' : HasBlk w5 w2.heap.size #[.int .i64 (M : Int)] 3 := (HB5.out.block _ (lt_of_some H2.out)).trans H2.out
          have h3' : HasBlk w5 (w2.heap.size + 1) #[.int .i64 (S : Int)] 40 := (HB5.out.block _ (lt_of_some H3.out)).trans H3.out
          have hks : KeepsFrom W4.heap.size W w5 := ⟨HB5.out.size, fun k o _ hk _ => (HB5.out.block k (lt_of_some hk)).trans hk⟩
          have hbw5 : Below w.heap.size W w5 := HB5.out.mono HB.out.size
          exact ⟨hks, hbw5, ⟨h1', h2', by rw [HE.out]; exact h3', by rw [HE.out]; exact HS64.out⟩, HB.out.trans hbw5⟩
    case done =>
      rintro E ys W hE hys ⟨⟨-, -, h3, -⟩, hB⟩ hK
      rw [hys, HMF.out] at h3
      have c3 := (blk_cell h3 0).trans (cell1_0 _)
      have HB := Lib.hid hB
      have HK := Lib.hid hK
      have HEs : Hid (w.heap.size ≤ E) := Lib.hid (by have := HS3.out; have := HS4.out; have := Z2.out; omega)
      clear h3 hB hK hys
      gi_wp2
      refine ⟨by simp, .inl ⟨_, _, rfl, run_takeDeferred HK.out, ?_⟩⟩
      exact ⟨.tuple #[.int .i64 ((blkS k zs (List.range k) : Nat) : Int), .bool true], by simp [results, Tryd.results6, go_sem], rfl, HB.out.trans (belowK_b (w := w) (Nat.le_refl _) W E _ _ HEs.out HK.out rfl rfl)⟩
    case stop =>
      rintro D c pre W _ _ h _
      exact h.elim

end Go.Proofs.YtgaappbcekllhaaDoor
