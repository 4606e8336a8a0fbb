/- It is proved what the reference model's AlikeOrbits returns; conditions: those of each statement. -/
import Derived.RowKit
import Derived.Laws.CopyRow
import Derived.Lib.SlBuf
import Derived.Deep.QuietTactic
import Derived.RangeFuncNested
import Derived.RangeFuncBound
import Derived.RangeFuncCalls
import Derived.RangeFuncLeaves
import Derived.RangeFuncBox
import Derived.RangeFuncWrites
import Derived.StillTailTactics
import Derived.Maps.OwnIn
import Derived.Maps.Ext
import Derived.DeepKeys4
import Derived.MapKept
import Derived.Test.YtjclfpcnfmpjdaaDoorRows
import Derived.WalkKit
import Derived.WalkSpells
import Derived.ProofKit
import Derived.OpenShut
import Derived.ShutString
import Derived.ChangeOld
import Derived.Below
import Derived.Deep.RegionHeld3
import Derived.BigQuiet
import Derived.Lib.Hide
import Derived.Lib.SmallJoins
import Derived.Outline
import Derived.Laws.MakeOwn
import Derived.Laws.OwnMore
import Derived.IntWalk
import Derived.Maps.AppendAt
import Derived.Lib.AppendZeros
import Derived.Deep.AppendLies
import Derived.OwnWalk
import Derived.Lib.SlicesCompact
import Derived.Lib.OwnBridge
import Derived.OrdersIn
import Derived.TacticsIn
import Derived.Shelf.Sort.Plain
import Derived.Shelf.Slices.In.SortNone
import Derived.Shelf.Slices.CompactI
import Derived.Ground.Names2Prog
import Derived.Shelf.Abstract
import Derived.Shelf.RegionOpen
import Derived.OwnWalkIn
import Derived.TacticsInMore
import Derived.LoopNIn
import Derived.LoopIn
import Derived.StillTail
import Derived.StillTactics
import Derived.Shelf.Spec.TrailingZeros
import Derived.Test.YtjclfpcnfmpjdaaDoorMra
import Derived.Test.YtjclfpcnfmpjdaaDoorMrb
import Derived.Test.YtjclfpcnfmpjdaaDoorBf
import Derived.Test.YtjclfpcnfmpjdaaDoorG
import Derived.Test.YtjclfpcnfmpjdaaDoorPb
namespace Go.Proofs.YtjclfpcnfmpjdaaDoor
open Go.RowKit Go.Shelf

set_option maxRecDepth 100000 in
theorem orw_fin : ∀ x : Fin 64, ∀ q : Fin 6, bits BinOp.or IntKind.i64 (x.val : Int) (wrap64 (2 ^ q.val)) = ((x.val ||| 2 ^ q.val : Nat) : Int) := by decide +kernel

theorem orw_at (x q : Nat) (hx : x < 64) (hq : q < 6) : bits BinOp.or IntKind.i64 (x : Int) (wrap64 (2 ^ q)) = ((x ||| 2 ^ q : Nat) : Int) := orw_fin ⟨x, hx⟩ ⟨q, hq⟩
set_option maxRecDepth 100000 in
set_option maxHeartbeats 4000000 in
theorem specOrbits_any (m : Int) (a : Option Addr) (c : Nat) (zs : List Int) (w : World) (ha : Ints w w.heap.size a zs) (hx : zs.length ≤ 1048576) :
    Calls Tryd.prog 32 #[.agg #[.int .i64 m, .slice a zs.length c]] w (RetSB w (orbZ m zs) (famIn m zs)) := by
  have hb1 := below2 w (.cells #[.int .i64 m, .slice a zs.length c] 25) (.cells #[] 3)
  have q0 := alloc2_0 w (.cells #[.int .i64 m, .slice a zs.length c] 25) (.cells #[] 3)
  have q1 := alloc2_1 w (.cells #[.int .i64 m, .slice a zs.length c] 25) (.cells #[] 3)
  have hs1 : ((w.alloc (.cells #[.int .i64 m, .slice a zs.length c] 25)).alloc (.cells #[] 3)).heap.size = w.heap.size + 1 + 1 := by simp
  obtain ⟨w1, hw1⟩ : ∃ w1, (w.alloc (.cells #[.int .i64 m, .slice a zs.length c] 25)).alloc (.cells #[] 3) = w1 := ⟨_, rfl⟩
  rw [hw1] at hb1 q0 q1 hs1
  have HA := Lib.hid ((ha.below hb1).mono (B' := w1.heap.size) hb1.size)
  have HB1 := Lib.hid hb1
  have HS1 := Lib.hid hs1
  have HQ1 : Hid (HasBlk w1 (w.heap.size + 1) #[] 3) := Lib.hid q1
  have x0 := (blk_cell q0 0).trans (cell2_0 _ _)
  have x1 := (blk_cell q0 1).trans (cell2_1 _ _)
  have HQ0 : Hid (HasBlk w1 w.heap.size #[.int .i64 m, .slice a zs.length c] 25) := Lib.hid q0
  cases hf : famIn m zs
  · have HF := Lib.hid hf
    have HR : Hid (orbZ m zs = []) := Lib.hid (by simp [orbZ, hf])
    clear hf ha hb1 q0 q1 hs1
    go_enter Tryd.func32, Tryd.ntmps32
    go_wp2_with (go_at_call 48; refine (specFamilyIn_any _ _ _ zs _ HA.out hx).mono ?_; rintro e w2 ⟨rfl, hb⟩; rw [HF.out]; have HB := Lib.hid hb; clear hb)
    go_ret2
    have q2 : HasBlk w2 (w.heap.size + 1) #[] 3 := (HB.out.block _ (by have := HS1.out; omega)).trans HQ1.out
    rw [HR.out]
    exact ⟨some ⟨w.heap.size + 1, 0, none⟩, 0, rfl, own_empty q2 (by omega), HB1.out.trans (HB.out.mono (by have := HS1.out; omega))⟩
  · obtain ⟨hm1, hm6, -, -⟩ := famIn_out hf
    obtain ⟨k, rfl⟩ : ∃ k : Nat, m = (k : Int) := ⟨m.toNat, by omega⟩
    have hk6 : k ≤ 6 := by omega
    have HF := Lib.hid hf
    obtain ⟨C, hC⟩ : ∃ C, C = calC k zs := ⟨_, rfl⟩
    have HCC := Lib.hid hC
    have HC64 : Hid (∀ v, C v < 64) := Lib.hid (fun v => by rw [hC]; exact calC_lt hk6 v)
    have HR : Hid (orbZ (k : Int) zs = nI (orbG C k).1) := Lib.hid (by rw [hC]; simp [orbZ, hf])
    clear hf ha hb1 q0 q1 hs1 hC
    go_enter Tryd.func32, Tryd.ntmps32
    go_wp2_with fail
    refine (specFamilyIn_any _ _ _ zs _ HA.out hx).mono ?_
    rintro e w2 ⟨rfl, hb⟩
    rw [HF.out]
    have q02 : HasBlk w2 w.heap.size #[.int .i64 (k : Int), .slice a zs.length c] 25 := (hb.block _ (by have := HS1.out; omega)).trans HQ0.out
    have y0 := (blk_cell q02 0).trans (cell2_0 _ _)
    have y1 := (blk_cell q02 1).trans (cell2_1 _ _)
    have hO := specOwn_any k hk6 a c zs w2 ((HA.out.below hb).mono hb.size) HF.out
    have HB := Lib.hid hb
    have HQ2 := Lib.hid q02
    clear hb q02 x0 x1 hw1
    go_wp2_with fail
    refine hO.mono ?_
    rintro e w3 ⟨v, rfl, hR, hb3⟩
    obtain ⟨oa, oc, rfl⟩ := hR.form
    have hl : ((ownL k zs).map nI).length ≤ 46656 := by rw [← ownF_all]; exact ownF_len k zs hk6 _
    obtain ⟨L, hL⟩ : ∃ L, L = (ownL k zs).length := ⟨_, rfl⟩
    have hs2 : w.heap.size + 1 + 1 ≤ w2.heap.size := by have := HB.out.size; have := HS1.out; omega
    have hs3 : w2.heap.size ≤ w3.heap.size := hb3.size
    have HX3 : Hid (HasBlk w3 w.heap.size #[.int .i64 (k : Int), .slice a zs.length c] 25) := Lib.hid ((hb3.block _ (by omega)).trans HQ2.out)
    have hO3 : OwnN w3 (w.heap.size + 1) (some ⟨w.heap.size + 1, 0, none⟩) 0 0 (nI (orbG C 0).1) := by
      have q3 : HasBlk w3 (w.heap.size + 1) #[] 3 := (hb3.block _ (by omega)).trans ((HB.out.block _ (by have := HS1.out; omega)).trans HQ1.out)
      have h := own_empty (B := w.heap.size + 1) q3 (Nat.le_refl _)
      unfold OwnI at h
      exact h
    have HO3 := Lib.hid hO3
    have HR3 := Lib.hid hR
    have HB3 : Hid (Below w.heap.size w w3) := Lib.hid (HB1.out.trans ((HB.out.mono (by have := HS1.out; omega)).trans (hb3.mono (by omega))))
    rw [List.length_map, ← hL] at hl HR3 ⊢
    have HLL := Lib.hid hL
    obtain ⟨X, hX⟩ : ∃ X : Nat → Prop, X = fun g => g = w.heap.size + 1 ∨ w3.heap.size ≤ g := ⟨_, rfl⟩
    have HXX := Lib.hid hX
    clear hO3 hR hL y0 y1 hO hb3 hX
    go_wp2
    go_loopw [4, 6, 7] (fun o s i wr => ∃ (v : Nat) (a' : Option Addr) (c' : Nat), v ≤ k ∧ i = .int .i64 (v : Int) ∧ s = .int .i64 (((orbG C v).2 : Nat) : Int) ∧ o = .slice a' (orbG C v).1.length c' ∧ OwnN wr (w.heap.size + 1) a' (orbG C v).1.length c' (nI (orbG C v).1) ∧ (∀ g, (Value.slice a' (orbG C v).1.length c').ownBlock = some g → X g) ∧ But X w3 wr ∧ Below w.heap.size w wr) (fun _ _ i _ => k - (intOf i).toNat)
    case atStart => exact ⟨0, _, _, Nat.zero_le _, rfl, rfl, rfl, HO3.out, fun g hg => by rw [HXX.out]; simp [Value.ownBlock] at hg; exact .inl hg.symm, But.refl _ _, HB3.out⟩
    case round =>
      obtain ⟨v, a', c', hv, rfl, rfl, rfl, ho, hg, hbt, hbl⟩ := hrel
      have hq : HasBlk wr w.heap.size #[.int .i64 (k : Int), .slice a zs.length c] 25 := hbt.keep (by rw [HXX.out]; omega) HX3.out
      have x0 := (blk_cell hq 0).trans (cell2_0 _ _)
      by_cases hlt : v < k
      · obtain ⟨S, hS⟩ : ∃ S, S = (orbG C v).2 := ⟨_, rfl⟩
        have hS64 : S < 64 := by rw [hS]; exact orbG_lt HC64.out v
        obtain ⟨tb, htb⟩ : ∃ tb, tb = S.testBit v := ⟨_, rfl⟩
        have hh := has_fin ⟨S, hS64⟩ ⟨v, by omega⟩
        simp only [← htb] at hh
        rw [← hS]
        have HO := Lib.hid ho
        have HG := Lib.hid hg
        have HBT := Lib.hid hbt
        have HBL := Lib.hid hbl
        have HS := Lib.hid hS
        have HTB := Lib.hid htb
        have hvi : (v : Int) < (k : Int) := by omega
        clear ho hg hbt hbl hq hS htb
        cases tb
        · have HNX : Hid (orbG C (v + 1) = ((orbG C v).1 ++ [C v], (orbG C v).2 ||| C v)) := Lib.hid (orbG_no (by rw [← HS.out]; exact HTB.out.symm))
          have HRW : Hid (∀ j, j < L → ∃ g g' c' q, q < 6 ∧ oa = some ⟨g, 0, none⟩ ∧ ((ownL k zs)[j]?.getD [])[v]?.getD 0 = q ∧ wr.cell? ⟨g, j, none⟩ = some (.slice (some ⟨g', 0, none⟩) k c') ∧ wr.cell? ⟨g', v, none⟩ = some (.int .i64 (q : Int))) := Lib.hid (fun j hj => by
            have hjl : j < (ownL k zs).length := by rw [← HLL.out]; exact hj
            obtain ⟨h1, h2⟩ := ownL_lt (zs := zs) hk6 (List.getElem_mem hjl)
            have e1 : ((ownL k zs).map nI)[j]?.getD [] = nI (ownL k zs)[j] := by rw [List.getElem?_map, List.getElem?_eq_getElem hjl]; rfl
            have hvl : v < (ownL k zs)[j].length := by omega
            obtain ⟨g, g', c', e, hc1, hc2⟩ := HR3.out.cellBut HBT.out (fun g l1 l2 => by rw [HXX.out]; omega) (i := j) (by rw [List.length_map]; exact hjl) (v := v) (by rw [e1, nI_len]; exact hvl)
            rw [e1, nI_len, h1] at hc1
            rw [e1] at hc2
            refine ⟨g, g', c', (ownL k zs)[j][v], ?_, e, ?_, hc1, ?_⟩
            · have := h2 v; rwa [List.getElem?_eq_getElem hvl, Option.getD_some] at this
            · rw [List.getElem?_eq_getElem hjl, Option.getD_some, List.getElem?_eq_getElem hvl]; rfl
            · rw [hc2]; unfold nI; rw [List.getElem?_map, List.getElem?_eq_getElem hvl]; rfl)
          go_wp2
          go_loop [8, 9] (fun s i => ∃ (j D : Nat), j ≤ L ∧ i = .int .i64 (j : Int) ∧ s = .int .i64 (D : Int) ∧ D = ((ownL k zs).take j).foldl (fun s p => s ||| 2 ^ (p[v]?.getD 0)) 0 ∧ D < 64) (fun _ i => L - (intOf i).toNat)
          case atStart => exact ⟨0, 0, Nat.zero_le _, rfl, rfl, rfl, by decide⟩
          case round =>
            obtain ⟨j, D, hj, rfl, rfl, hD, hD64⟩ := hrel
            by_cases hjl : j < L
            · obtain ⟨g, g', c2, q, hq6, hog, hq, hc1, hc2⟩ := HRW.out j hjl
              subst hog
              have HD : Hid (D ||| 2 ^ q = ((ownL k zs).take (j + 1)).foldl (fun s p => s ||| 2 ^ (p[v]?.getD 0)) 0) := Lib.hid (by
                have hjl2 : j < (ownL k zs).length := by rw [← HLL.out]; exact hjl
                rw [List.take_succ_eq_append_getElem hjl2, List.foldl_append, ← hD]
                rw [List.getElem?_eq_getElem hjl2, Option.getD_some] at hq
                simp [hq])
              have HOR : Hid (bits BinOp.or IntKind.i64 (D : Int) (wrap64 (2 ^ q)) = ((D ||| 2 ^ q : Nat) : Int)) := Lib.hid (orw_at D q hD64 hq6)
              have hE64 : D ||| 2 ^ q < 64 := or_lt64 hD64 (Nat.pow_lt_pow_right (by decide) hq6)
              have hji : (j : Int) < (L : Int) := by omega
              have hj0 : (0 : Int) ≤ (j : Int) := by omega
              have hv0 : (0 : Int) ≤ (v : Int) := by omega
              clear hD hq
              go_wp2
              go_round
              case rel => exact ⟨j + 1, D ||| 2 ^ q, by omega, by go_num, by rw [HOR.out], HD.out, hE64⟩
              case measure => simp [intOf]; omega
            · obtain rfl : j = L := by omega
              have HD : Hid (D = C v) := Lib.hid (by rw [HCC.out]; unfold calC; rw [hD, HLL.out, List.take_length])
              clear hD
              have hOl : (orbG C v).1.length ≤ 100000 := by have := orbG_len C v; omega
              obtain ⟨a5, c5, w5, hr5, ho5, hall⟩ := app_int HO.out (by have := HBT.out.size; omega) hOl (D : Int)
              obtain ⟨hb5, hg5⟩ := hall X HG.out (fun g hg => by rw [HXX.out]; have := HBT.out.size; exact .inr (by omega))
              have HOS : Hid (bits BinOp.or IntKind.i64 (S : Int) (D : Int) = ((S ||| D : Nat) : Int)) := Lib.hid (or6_at S D hS64 hD64)
              have HL5 : Hid ((orbG C v).1.length + 1 = (orbG C (v + 1)).1.length) := Lib.hid (by rw [HNX.out]; simp)
              have HO5 : Hid (OwnN w5 (w.heap.size + 1) a5 (orbG C (v + 1)).1.length c5 (nI (orbG C (v + 1)).1)) := Lib.hid (by rw [← HL5.out, HNX.out, ← HD.out]; rw [show nI ((orbG C v).1 ++ [D]) = nI (orbG C v).1 ++ [(D : Int)] from nI_snoc _ _]; exact ho5)
              have HG5 : Hid (∀ g, (Value.slice a5 (orbG C (v + 1)).1.length c5).ownBlock = some g → X g) := Lib.hid (by rw [← HL5.out]; exact hg5)
              have HBT5 : Hid (But X w3 w5) := Lib.hid (HBT.out.trans hb5)
              have HBL5 : Hid (Below w.heap.size w w5) := Lib.hid (HBL.out.trans (hb5.below HBL.out.size (fun g hg => by rw [HXX.out] at hg; have := HB3.out.size; omega)))
              obtain ⟨T, hT⟩ : ∃ T, T = (orbG C v).1.length := ⟨_, rfl⟩
              rw [← hT] at hr5 HL5
              rw [← hT]
              clear ho5 hall hb5 hg5 hT hOl
              go_wp2_with (at_builtin; refine wpList_append_eq _ rfl _ _ 23 23 rfl _ _ rfl rfl hr5 ?_)
              go_roundw
              case rel => exact ⟨v + 1, a5, c5, by omega, by go_num, by rw [HOS.out, HNX.out, ← HD.out, ← HS.out], by rw [HL5.out], HO5.out, HG5.out, HBT5.out, HBL5.out⟩
              case measure => simp [intOf]; omega
        · have HNX : Hid (orbG C (v + 1) = orbG C v) := Lib.hid (orbG_yes (by rw [← HS.out]; exact HTB.out.symm))
          go_wp2
          go_roundw
          case rel => exact ⟨v + 1, a', c', by omega, by go_num, by rw [HNX.out, ← HS.out], by rw [HNX.out], by rw [HNX.out]; exact HO.out, by rw [HNX.out]; exact HG.out, HBT.out, HBL.out⟩
          case measure => simp [intOf]; omega
      · obtain rfl : v = k := by omega
        have HF : Hid (RetSB w (orbZ (v : Int) zs) true (.returned (.tuple #[.slice a' (orbG C v).1.length c', .bool true])) wr) := Lib.hid ⟨a', c', by rw [HR.out, nI_len], own_mono (B := w.heap.size + 1) (by rw [HR.out, nI_len]; unfold OwnI; rw [nI_len]; exact ho) (by omega), hbl⟩
        clear ho hg hbt hbl hq
        go_wp2
        go_ret2
        exact HF.out

end Go.Proofs.YtjclfpcnfmpjdaaDoor
