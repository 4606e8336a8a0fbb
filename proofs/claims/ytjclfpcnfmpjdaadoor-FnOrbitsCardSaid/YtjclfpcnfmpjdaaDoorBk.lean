/- It is proved what AlikeOrbits of the program returns; conditions: those of each statement. -/
import Derived.RowKit
import Derived.Laws.CopyRow
import Derived.Lib.SlBuf
import Derived.Deep.QuietTactic
import Derived.RangeFuncNested
import Derived.RangeFuncBound
import Derived.RangeFuncCalls
import Derived.RangeFuncLeaves
import Derived.RangeFuncBox
import Derived.RangeFuncWrites
import Derived.StillTailTactics
import Derived.Maps.OwnIn
import Derived.Maps.Ext
import Derived.DeepKeys4
import Derived.MapKept
import Derived.Test.YtjclfpcnfmpjdaaDoorRows
import Derived.WalkKit
import Derived.WalkSpells
import Derived.ProofKit
import Derived.OpenShut
import Derived.ShutString
import Derived.ChangeOld
import Derived.Below
import Derived.Deep.RegionHeld3
import Derived.BigQuiet
import Derived.Lib.Hide
import Derived.Lib.SmallJoins
import Derived.Outline
import Derived.Laws.MakeOwn
import Derived.Laws.OwnMore
import Derived.IntWalk
import Derived.Maps.AppendAt
import Derived.Lib.AppendZeros
import Derived.Deep.AppendLies
import Derived.OwnWalk
import Derived.Lib.SlicesCompact
import Derived.Lib.OwnBridge
import Derived.OrdersIn
import Derived.TacticsIn
import Derived.Shelf.Sort.Plain
import Derived.Shelf.Slices.In.SortNone
import Derived.Shelf.Slices.CompactI
import Derived.Ground.Names2Prog
import Derived.Shelf.Abstract
import Derived.Shelf.RegionOpen
import Derived.OwnWalkIn
import Derived.TacticsInMore
import Derived.LoopNIn
import Derived.LoopIn
import Derived.StillTail
import Derived.StillTactics
import Derived.Shelf.Spec.TrailingZeros
import Derived.Test.YtjclfpcnfmpjdaaDoorMra
import Derived.Test.YtjclfpcnfmpjdaaDoorMrb
import Derived.Test.YtjclfpcnfmpjdaaDoorPb
namespace Go.Proofs.YtjclfpcnfmpjdaaDoor
open Go.RowKit Go.Shelf Go.Maps

theorem andC_seen {g ps : List Int} {v : Nat} (hg : 7 + v < g.length) : ∀ k, v < k → (andC g ps k)[7 + v]?.getD 0 = orI (g[7 + v]?.getD 0) (ps[v]?.getD 0)
  | 0, h => by omega
  | k + 1, h => by
    rw [andC]
    by_cases e : k = v
    · subst e
      rw [List.getElem?_set_self (by rw [andC_len]; exact hg), Option.getD_some, andC_far _ _ _ _ (.inr (by omega))]
    · rw [List.getElem?_set_ne (by omega)]
      exact andC_seen hg k (by omega)

theorem andL_cal {xs ps : List Int} (hx : xs.length = 13) (hp : ps.length ≤ 6) {v : Nat} (hv : v < ps.length) : (andL xs ps)[7 + v]?.getD 0 = orI (xs[7 + v]?.getD 0) (ps[v]?.getD 0) := by
  rw [andL, andC_seen (by rw [andM_len (by omega)]; omega) _ hv, andM_far hp _ (by omega)]

theorem nm_cal (v : Nat) : ∀ (L : List (List Nat)) (x : List Int) (s : Nat), x.length = 13 → x[7 + v]?.getD 0 = (s : Int) → (∀ p ∈ L, p.length ≤ 6 ∧ v < p.length) →
    (L.foldl (fun x p => andL x (nI p)) x)[7 + v]?.getD 0 = ((L.foldl (fun s p => s ||| 2 ^ (p[v]?.getD 0)) s : Nat) : Int)
  | [], _, _, _, h, _ => h
  | p :: L, x, s, hx, h, hp => by
    have h1 := hp p (by simp)
    rw [List.foldl_cons, List.foldl_cons]
    refine nm_cal v L _ _ (by rw [andL, andC_len, andM_len (by rw [nI_len]; omega), hx]) ?_ (fun q hq => hp q (by simp [hq]))
    rw [andL_cal hx (by rw [nI_len]; exact h1.1) (by rw [nI_len]; exact h1.2), h]
    unfold nI orI
    rw [List.getElem?_map, List.getElem?_eq_getElem h1.2]
    simp

theorem nm_called (k : Nat) (hk : k ≤ 6) (zs : List Int) (v : Nat) (hv : v < k) : (nmL zs (permsL k (List.range k)) (keyL zs (nI (List.range k))))[7 + v]?.getD 0 = (calC k zs v : Int) := by
  unfold nmL calC ownL
  refine nm_cal v _ _ 0 rfl (by unfold zero13; rw [List.getElem?_replicate, if_pos (by omega)]; rfl) (fun p hp => ?_)
  have hp := (List.mem_filter.1 hp).1
  rw [← lvlL_perms] at hp
  have := lvlL_in hp
  omega

set_option maxRecDepth 100000 in
set_option maxHeartbeats 4000000 in
theorem implOrbits_any (m : Int) (a : Option Addr) (c : Nat) (zs : List Int) (w : World) (ha : Ints w w.heap.size a zs) (hT : Tab w) (hx : zs.length ≤ 1048576) :
    Calls Tryd.prog 31 #[.agg #[.int .i64 m, .slice a zs.length c]] w (RetSB w (orbZ m zs) (famIn m zs)) := by
  have HA := Lib.hid ((ha.below (below1 w (.cells #[.int .i64 m, .slice a zs.length c] 25))).mono (B' := (w.alloc (.cells #[.int .i64 m, .slice a zs.length c] 25)).heap.size) (by simp))
  cases hf : famIn m zs
  · have HF := Lib.hid hf
    have HR : Hid (orbZ m zs = []) := Lib.hid (by simp [orbZ, hf])
    clear hf ha
    go_enter Tryd.func31, Tryd.ntmps31
    go_wp2_with (go_at_call 46; refine (implFamilyIn_any _ _ _ zs _ HA.out hx).mono ?_; rintro e w1 ⟨rfl, hb⟩; rw [HF.out]; have HB := Lib.hid hb; clear hb)
    go_ret2
    exact ⟨none, 0, by rw [HR.out]; rfl, by rw [HR.out]; exact ⟨by simp, .inl ⟨rfl, rfl⟩⟩, (below1 _ _).trans (HB.out.mono (by simp))⟩
  · have HF := Lib.hid hf
    obtain ⟨hm1, hm6, hl8, -⟩ := famIn_out hf
    obtain ⟨k, rfl⟩ : ∃ k : Nat, m = (k : Int) := ⟨m.toNat, by omega⟩
    have hk0 : 1 ≤ k := by omega
    have hk6 : k ≤ 6 := by omega
    obtain ⟨C, hC⟩ : ∃ C, C = calC k zs := ⟨_, rfl⟩
    have HC64 : Hid (∀ v, C v < 64) := Lib.hid (fun v => by rw [hC]; exact calC_lt hk6 v)
    have HR : Hid (orbZ (k : Int) zs = nI (orbG C k).1) := Lib.hid (by rw [hC]; simp [orbZ, hf])
    have hnm : NmOk (nmL zs (permsL k (List.range k)) (keyL zs (nI (List.range k)))) (permsL k (List.range k)).length := nmOk_all _ _ _ (fun p hp => by
      rw [← lvlL_perms] at hp
      exact namesOk_nI hk0 hk6 (lvlL_in hp) (lvlL_lt hp))
    obtain ⟨nm, hnmE⟩ : ∃ nm, nm = nmL zs (permsL k (List.range k)) (keyL zs (nI (List.range k))) := ⟨_, rfl⟩
    have HNM := Lib.hid hnmE
    have HCAL : Hid (∀ v, v < k → nm[7 + v]?.getD 0 = (C v : Int)) := Lib.hid (fun v hv => by rw [hnmE, hC]; exact nm_called k hk6 zs v hv)
    have h13 : nm.length = 13 := by rw [hnmE]; exact hnm.len
    obtain ⟨x0, x1, x2, x3, x4, x5, x6, x7, x8, x9, x10, x11, x12, hxx⟩ : ∃ x0 x1 x2 x3 x4 x5 x6 x7 x8 x9 x10 x11 x12 : Int, nm = [x0, x1, x2, x3, x4, x5, x6, x7, x8, x9, x10, x11, x12] := by
      match nm, h13 with
      | [x0, x1, x2, x3, x4, x5, x6, x7, x8, x9, x10, x11, x12], _ => exact ⟨_, _, _, _, _, _, _, _, _, _, _, _, _, rfl⟩
    have HXX := Lib.hid hxx
    have HT := Lib.hid hT
    have HI := Lib.hid ha
    have hmm := @run_makeMap Tryd.prog
    have hT1 := hT.lt
    clear hf ha hnm hnmE hT hC hxx h13
    go_enter Tryd.func31, Tryd.ntmps31
    go_wp2_with fail
    refine (implFamilyIn_any _ _ _ zs _ HA.out hx).mono ?_
    rintro e w1 ⟨rfl, hb⟩
    rw [HF.out]
    have q0 : HasBlk w1 w.heap.size #[.int .i64 (k : Int), .slice a zs.length c] 25 := (hb.block _ (by simp)).trans (alloc_new w _)
    have hs1 : w.heap.size + 1 ≤ w1.heap.size := by have := hb.size; simpa using this
    have hbw : Below w.heap.size w w1 := (below1 w _).trans (hb.mono (by simp))
    have hb2 : Below w.heap.size w (w1.alloc (.map #[] 0)) := hbw.alloc (by omega) _
    have q2 : HasBlk (w1.alloc (.map #[] 0)) w.heap.size #[.int .i64 (k : Int), .slice a zs.length c] 25 := HasBlk.alloc q0 _
    have HQ2 := Lib.hid q2
    have x0' := (blk_cell q2 0).trans (cell2_0 _ _)
    have x1' := (blk_cell q2 1).trans (cell2_1 _ _)
    have hown : OwnT (w1.alloc (.map #[] 0)) w1.heap.size 0 (.map []) := World.ownsMap_made w1 _ _ _
    have hK := keeping_any k hk0 hk6 a c zs (w1.alloc (.map #[] 0)) ((HI.out.below hb2).mono (by simp; omega)) (HT.out.below hb2 hT1) HF.out w1.heap.size 0 (.map []) (by omega) hown
    rw [← HNM.out] at hK
    have HB2 := Lib.hid hb2
    clear hb q0 hbw hb2 q2 hown
    go_wp2_with fail
    refine hK.mono ?_
    rintro e w3 ⟨rfl, hb3⟩
    have hb4 : Below w.heap.size w (w3.alloc (.cells (iv nm) 78)) := HB2.out.trans ((hb3.below (B := w.heap.size) (by simp; omega) (fun i e => by omega)).alloc (by have := hb3.size; simp at this; omega) _)
    have q4 : HasBlk (w3.alloc (.cells (iv nm) 78)) w.heap.size #[.int .i64 (k : Int), .slice a zs.length c] 25 := HasBlk.alloc (hb3.keep (by omega) HQ2.out) _
    have q5 : HasBlk (w3.alloc (.cells (iv nm) 78)) w3.heap.size (iv nm) 78 := alloc_new w3 _
    have hs4 : (w3.alloc (.cells (iv nm) 78)).heap.size = w3.heap.size + 1 := by simp
    have hs3 : w1.heap.size < w3.heap.size := by have := hb3.size; simp at this; omega
    rw [show iv nm = #[.int .i64 x0, .int .i64 x1, .int .i64 x2, .int .i64 x3, .int .i64 x4, .int .i64 x5, .int .i64 x6, .int .i64 x7, .int .i64 x8, .int .i64 x9, .int .i64 x10, .int .i64 x11, .int .i64 x12] from by rw [HXX.out]; rfl]
    obtain ⟨w4, hw4⟩ : ∃ w4, w3.alloc (.cells (iv nm) 78) = w4 := ⟨_, rfl⟩
    rw [hw4] at hb4 q4 q5 hs4
    rw [HXX.out, show iv [x0, x1, x2, x3, x4, x5, x6, x7, x8, x9, x10, x11, x12] = #[.int .i64 x0, .int .i64 x1, .int .i64 x2, .int .i64 x3, .int .i64 x4, .int .i64 x5, .int .i64 x6, .int .i64 x7, .int .i64 x8, .int .i64 x9, .int .i64 x10, .int .i64 x11, .int .i64 x12] from rfl] at hw4
    have HB4 := Lib.hid hb4
    have HQ4 := Lib.hid q4
    have HQ5 := Lib.hid q5
    have HS4 := Lib.hid hs4
    have y0 := (blk_cell q4 0).trans (cell2_0 _ _)
    have hO4 : Hid (OwnN w4 w4.heap.size none 0 0 (nI (orbG C 0).1)) := Lib.hid ⟨by simp [orbG, nI], .inl ⟨rfl, rfl⟩⟩
    clear hb3 hK hb4 q4 q5 hs4 x0' x1'
    go_wp2
    go_loopw [5, 6, 20] (fun o s i wr => ∃ (v : Nat) (a' : Option Addr) (c' : Nat), v ≤ k ∧ i = .int .i64 (v : Int) ∧ s = .int .i64 (((orbG C v).2 : Nat) : Int) ∧ o = .slice a' (orbG C v).1.length c' ∧ OwnN wr w4.heap.size a' (orbG C v).1.length c' (nI (orbG C v).1) ∧ Below w4.heap.size w4 wr) (fun _ _ i _ => k - (intOf i).toNat)
    case atStart => exact ⟨0, _, _, Nat.zero_le _, rfl, rfl, rfl, hO4.out, Below.refl _ _⟩
    case round =>
      obtain ⟨v, a', c', hv, rfl, rfl, rfl, ho, hbt⟩ := hrel
      by_cases hlt : v < k
      · obtain ⟨S, hS⟩ : ∃ S, S = (orbG C v).2 := ⟨_, rfl⟩
        have hS64 : S < 64 := by rw [hS]; exact orbG_lt HC64.out v
        obtain ⟨tb, htb⟩ : ∃ tb, tb = S.testBit v := ⟨_, rfl⟩
        have hh := has_any S v hS64 (by omega) wr
        rw [← htb] at hh
        rw [← hS]
        have hcv : wr.cell? ⟨w3.heap.size, 7 + v, none⟩ = some (.int .i64 ((C v : Nat) : Int)) := (hbt.cell (p := ⟨w3.heap.size, 7 + v, none⟩) (by have := HS4.out; simp only; omega)).trans ((blk_cell HQ5.out (7 + v)).trans (by rw [iv_at nm (7 + v) (by rw [HXX.out]; simp; omega), HCAL.out v hlt]))
        obtain ⟨D, hD⟩ : ∃ D, D = C v := ⟨_, rfl⟩
        have hD64 : D < 64 := by rw [hD]; exact HC64.out v
        rw [← hD] at hcv
        have HD := Lib.hid hD
        have HO := Lib.hid ho
        have HBT := Lib.hid hbt
        have HS := Lib.hid hS
        have HTB := Lib.hid htb
        have hvi : (v : Int) < (k : Int) := by omega
        have hv0 : (0 : Int) ≤ (v : Int) := by omega
        clear ho hbt hS htb hD
        cases tb
        · have HNX : Hid (orbG C (v + 1) = ((orbG C v).1 ++ [C v], (orbG C v).2 ||| C v)) := Lib.hid (orbG_no (by rw [← HS.out]; exact HTB.out.symm))
          have hOl : (orbG C v).1.length ≤ 100000 := by have := orbG_len C v; omega
          obtain ⟨a5, c5, w5, hr5, ho5, hall⟩ := app_int HO.out HBT.out.size hOl (D : Int)
          obtain ⟨hb5, hg5⟩ := hall (fun g => w4.heap.size ≤ g) (fun g hg => (World.ownsRow.lt HO.out g hg).1) (fun g hg => Nat.le_trans HBT.out.size hg)
          have HOS : Hid (bits BinOp.or IntKind.i64 (S : Int) (D : Int) = ((S ||| D : Nat) : Int)) := Lib.hid (or6_at S D hS64 hD64)
          have HL5 : Hid ((orbG C v).1.length + 1 = (orbG C (v + 1)).1.length) := Lib.hid (by rw [HNX.out]; simp)
          have HO5 : Hid (OwnN w5 w4.heap.size a5 (orbG C (v + 1)).1.length c5 (nI (orbG C (v + 1)).1)) := Lib.hid (by rw [← HL5.out, HNX.out, ← HD.out]; rw [show nI ((orbG C v).1 ++ [D]) = nI (orbG C v).1 ++ [(D : Int)] from nI_snoc _ _]; exact ho5)
          have HBT5 : Hid (Below w4.heap.size w4 w5) := Lib.hid (HBT.out.trans (hb5.below HBT.out.size (fun g hg => hg)))
          obtain ⟨T, hT⟩ : ∃ T, T = (orbG C v).1.length := ⟨_, rfl⟩
          rw [← hT] at hr5 HL5
          rw [← hT]
          clear ho5 hall hb5 hg5 hT hOl
          go_wp2_with (first
            | (go_at_call 67; refine hh.mono ?_; rintro e w' ⟨rfl, rfl⟩)
            | (at_builtin; refine wpList_append_eq _ rfl _ _ 23 23 rfl _ _ rfl rfl hr5 ?_))
          go_roundw
          case rel => exact ⟨v + 1, a5, c5, by omega, by go_num, by rw [HOS.out, HNX.out, ← HD.out, ← HS.out], by rw [HL5.out], HO5.out, HBT5.out⟩
          case measure => simp [intOf]; omega
        · have HNX : Hid (orbG C (v + 1) = orbG C v) := Lib.hid (orbG_yes (by rw [← HS.out]; exact HTB.out.symm))
          go_wp2_with (go_at_call 67; refine hh.mono ?_; rintro e w' ⟨rfl, rfl⟩)
          go_roundw
          case rel => exact ⟨v + 1, a', c', by omega, by go_num, by rw [HNX.out, ← HS.out], by rw [HNX.out], by rw [HNX.out]; exact HO.out, HBT.out⟩
          case measure => simp [intOf]; omega
      · obtain rfl : v = k := by omega
        have HF : Hid (RetSB w (orbZ (v : Int) zs) true (.returned (.tuple #[.slice a' (orbG C v).1.length c', .bool true])) wr) := Lib.hid ⟨a', c', by rw [HR.out, nI_len], own_mono (B := w4.heap.size) (by rw [HR.out, nI_len]; unfold OwnI; rw [nI_len]; exact ho) HB4.out.size, HB4.out.trans (hbt.mono HB4.out.size)⟩
        clear ho hbt
        go_wp2
        go_ret2
        exact HF.out

end Go.Proofs.YtjclfpcnfmpjdaaDoor
