/- It is proved what AlikeNames of the program returns; conditions: those of each statement. -/
import Derived.RowKit
import Derived.Laws.CopyRow
import Derived.Lib.SlBuf
import Derived.Deep.QuietTactic
import Derived.RangeFuncNested
import Derived.RangeFuncBound
import Derived.RangeFuncCalls
import Derived.RangeFuncLeaves
import Derived.RangeFuncBox
import Derived.RangeFuncWrites
import Derived.StillTailTactics
import Derived.Maps.OwnIn
import Derived.Maps.Ext
import Derived.DeepKeys4
import Derived.MapKept
import Derived.Test.YtjclfpcnfmpjdaaDoorRows
import Derived.WalkKit
import Derived.WalkSpells
import Derived.ProofKit
import Derived.OpenShut
import Derived.ShutString
import Derived.ChangeOld
import Derived.Below
import Derived.Deep.RegionHeld3
import Derived.BigQuiet
import Derived.Lib.Hide
import Derived.Lib.SmallJoins
import Derived.Outline
import Derived.Laws.MakeOwn
import Derived.Laws.OwnMore
import Derived.IntWalk
import Derived.Maps.AppendAt
import Derived.Sort.MapsRangeIn
import Derived.Lib.AppendZeros
import Derived.Deep.AppendLies
import Derived.OwnWalk
import Derived.Lib.SlicesCompact
import Derived.Lib.OwnBridge
import Derived.OrdersIn
import Derived.TacticsIn
import Derived.Shelf.Sort.Plain
import Derived.Shelf.Slices.In.SortNone
import Derived.Shelf.Slices.CompactI
import Derived.Ground.Names2Prog
import Derived.Shelf.Abstract
import Derived.Shelf.RegionOpen
import Derived.OwnWalkIn
import Derived.TacticsInMore
import Derived.LoopNIn
import Derived.LoopIn
import Derived.StillTail
import Derived.StillTactics
import Derived.Shelf.Spec.TrailingZeros
import Derived.Test.YtjclfpcnfmpjdaaDoorMsa
import Derived.Test.YtjclfpcnfmpjdaaDoorMsb
import Derived.Test.YtjclfpcnfmpjdaaDoorBv
import Derived.Test.YtjclfpcnfmpjdaaDoorBw
import Derived.Test.YtjclfpcnfmpjdaaDoorBx
namespace Go.Proofs.YtjclfpcnfmpjdaaDoor
open Go.RowKit Go.Shelf Go.Maps

theorem field_zero (x0 x1 x2 x3 x4 x5 x6 x7 x8 x9 x10 x11 x12 : Int) (w : World) : (Instr.field 78 (.agg #[.int .i64 x0, .int .i64 x1, .int .i64 x2, .int .i64 x3, .int .i64 x4, .int .i64 x5, .int .i64 x6, .int .i64 x7, .int .i64 x8, .int .i64 x9, .int .i64 x10, .int .i64 x11, .int .i64 x12]) 0).run Tryd.prog w = .ok (.agg #[.int .i64 x0, .int .i64 x1, .int .i64 x2, .int .i64 x3, .int .i64 x4, .int .i64 x5]) w := by kernel_rfl
set_option maxRecDepth 100000 in
set_option maxHeartbeats 4000000 in
theorem implNames_any (m : Int) (a : Option Addr) (c : Nat) (zs : List Int) (w : World) (ha : Ints w w.heap.size a zs) (hT : Tab w) (hx : zs.length ≤ 1048576) :
    Calls Tryd.prog 23 #[.agg #[.int .i64 m, .slice a zs.length c]] w (RetSB w (namesZ m zs) (famIn m zs)) := by
  have HA := Lib.hid ((ha.below (below1 w (.cells #[.int .i64 m, .slice a zs.length c] 25))).mono (B' := (w.alloc (.cells #[.int .i64 m, .slice a zs.length c] 25)).heap.size) (by simp))
  cases hf : famIn m zs
  · have HF := Lib.hid hf
    have HR : Hid (namesZ m zs = []) := Lib.hid (by simp [namesZ, hf])
    clear hf ha
    go_enter Tryd.func23, Tryd.ntmps23
    go_wp2_with (go_at_call 46; refine (implFamilyIn_any _ _ _ zs _ HA.out hx).mono ?_; rintro e w1 ⟨rfl, hb⟩; rw [HF.out]; have HB := Lib.hid hb; clear hb)
    go_ret2
    exact ⟨none, 0, by rw [HR.out]; rfl, by rw [HR.out]; exact ⟨by simp, .inl ⟨rfl, rfl⟩⟩, (below1 _ _).trans (HB.out.mono (by simp))⟩
  · have HF := Lib.hid hf
    obtain ⟨hm1, hm6, hl8, hz4⟩ := famIn_out hf
    obtain ⟨k, rfl⟩ : ∃ k : Nat, m = (k : Int) := ⟨m.toNat, by omega⟩
    have hk0 : 1 ≤ k := by omega
    have hk6 : k ≤ 6 := by omega
    have HR : Hid (namesZ (k : Int) zs = nI (firstN k zs)) := Lib.hid (by simp [namesZ, hf])
    have HL : Hid ((firstN k zs).length = k) := Lib.hid (firstN_len hk6 zs)
    have hz : ∀ z ∈ zs, z.toNat < 2 ^ k := fun z hz => by
      have h1 := hz4 z hz
      have h3 : fullI (k : Int) = ((2 ^ k - 1 : Nat) : Int) := full_nat k
      have h4 : 1 ≤ 2 ^ k := Nat.one_le_two_pow
      omega
    have hwk : WfK (keyL zs (nI (firstN k zs))) := by
      have hin : firstN k zs ∈ lvlL k k := bestG_in zs (lvlL k k) _ (by have := lvlL_pos hk6; omega)
      exact wfK_key hk6 (by omega) hz (okp_nI hk6 (lvlL_in hin) (lvlL_lt hin))
    have hnm : NmOk (nmL zs (permsL k (List.range k)) (keyL zs (nI (firstN k zs)))) (permsL k (List.range k)).length := nmOk_all _ _ _ (fun p hp => by
      rw [← lvlL_perms] at hp
      exact namesOk_nI hk0 hk6 (lvlL_in hp) (lvlL_lt hp))
    have HFS : Hid (∀ v, v < k → (nmL zs (permsL k (List.range k)) (keyL zs (nI (firstN k zs))))[v]?.getD 0 = (nI (firstN k zs))[v]?.getD 0) := Lib.hid (fun v hv => nm_firsts k hk6 zs v hv)
    obtain ⟨K, hK⟩ : ∃ K, K = keyL zs (nI (firstN k zs)) := ⟨_, rfl⟩
    have hK8 : K.length = 8 := by rw [hK]; exact keyL_len _ _ (by omega)
    have HK := Lib.hid hK
    have HWK := Lib.hid hwk
    have h13 := hnm.len
    obtain ⟨nm, hnmE⟩ : ∃ nm, nm = nmL zs (permsL k (List.range k)) (keyL zs (nI (firstN k zs))) := ⟨_, rfl⟩
    rw [← hnmE] at h13
    have HNM := Lib.hid hnmE
    have HT := Lib.hid hT
    have HI := Lib.hid ha
    have hmm := @run_makeMap Tryd.prog
    have hfz := field_zero
    have hT1 := hT.lt
    clear hf ha hnm hnmE hT hz hz4 hwk hK
    go_enter Tryd.func23, Tryd.ntmps23
    go_wp2_with fail
    refine (implFamilyIn_any _ _ _ zs _ HA.out hx).mono ?_
    rintro e w1 ⟨rfl, hb⟩
    rw [HF.out]
    have q0 : HasBlk w1 w.heap.size #[.int .i64 (k : Int), .slice a zs.length c] 25 := (hb.block _ (by simp)).trans (alloc_new w _)
    have hs1 : w.heap.size + 1 ≤ w1.heap.size := by have := hb.size; simpa using this
    have hbw : Below w.heap.size w w1 := (below1 w _).trans (hb.mono (by simp))
    have hb2 : Below w.heap.size w (w1.alloc (.map #[] 0)) := hbw.alloc (by omega) _
    have q2 : HasBlk (w1.alloc (.map #[] 0)) w.heap.size #[.int .i64 (k : Int), .slice a zs.length c] 25 := HasBlk.alloc q0 _
    have x0' := (blk_cell q2 0).trans (cell2_0 _ _)
    have x1' := (blk_cell q2 1).trans (cell2_1 _ _)
    have hown : OwnT (w1.alloc (.map #[] 0)) w1.heap.size 0 (.map []) := World.ownsMap_made w1 _ _ _
    have hLO := leastOf_any k hk0 hk6 a c zs (w1.alloc (.map #[] 0)) ((HI.out.below hb2).mono (by simp; omega)) (HT.out.below hb2 hT1) HF.out w1.heap.size 0 (.map []) (by omega) hown
    rw [← HK.out] at hLO
    have HB2 := Lib.hid hb2
    have HQ2 := Lib.hid q2
    clear hb q0 hbw hb2 q2 hown
    go_wp2_with fail
    refine hLO.mono ?_
    rintro e w3 ⟨rfl, ⟨n1, D1, hO1, hT1'⟩, hb3⟩
    have hlk := lookup_eq hO1 hT1' HWK.out
    rw [← HK.out, HK.out, ← HNM.out, ← HK.out] at hlk
    obtain ⟨v0, v1, v2, v3, v4, v5, v6, v7, hv⟩ := eight hK8
    have h13' := h13
    obtain ⟨x0, x1, x2, x3, x4, x5, x6, x7, x8, x9, x10, x11, x12, hxx⟩ : ∃ x0 x1 x2 x3 x4 x5 x6 x7 x8 x9 x10 x11 x12 : Int, nm = [x0, x1, x2, x3, x4, x5, x6, x7, x8, x9, x10, x11, x12] := by
      match nm, h13' with
      | [x0, x1, x2, x3, x4, x5, x6, x7, x8, x9, x10, x11, x12], _ => exact ⟨_, _, _, _, _, _, _, _, _, _, _, _, _, rfl⟩
    have hb4 : Below w.heap.size w (w3.alloc (.cells (iv (nm.take 6)) 75)) := HB2.out.trans ((hb3.below (B := w.heap.size) (by simp; omega) (fun i e => by omega)).alloc (by have := hb3.size; simp at this; omega) _)
    have q4 : HasBlk (w3.alloc (.cells (iv (nm.take 6)) 75)) w.heap.size #[.int .i64 (k : Int), .slice a zs.length c] 25 := HasBlk.alloc (hb3.keep (by omega) HQ2.out) _
    have q5 : HasBlk (w3.alloc (.cells (iv (nm.take 6)) 75)) w3.heap.size (iv (nm.take 6)) 75 := alloc_new w3 _
    have hs4 : (w3.alloc (.cells (iv (nm.take 6)) 75)).heap.size = w3.heap.size + 1 := by simp
    obtain ⟨w4, hw4⟩ : ∃ w4, w3.alloc (.cells (iv (nm.take 6)) 75) = w4 := ⟨_, rfl⟩
    rw [hw4] at hb4 q4 q5 hs4
    have hin : Ints w4 w4.heap.size (some ⟨w3.heap.size, 0, none⟩) (nI (firstN k zs)) := .inr ⟨w3.heap.size, 0, rfl, by omega, fun j hj => by
      have hjk : j < k := by rw [nI_len, HL.out] at hj; exact hj
      rw [Nat.zero_add, blk_cell q5 j, iv_at _ j (by rw [List.length_take]; omega), List.getElem?_take, if_pos (by omega), ← HFS.out j hjk, ← HNM.out]⟩
    have hcl := clone_any w3.heap.size 0 6 k (nI (firstN k zs)) (by rw [nI_len, HL.out]) (by omega) w4 hin
    have y0 := (blk_cell q4 0).trans (cell2_0 _ _)
    rw [hv, hxx, show iv [v0, v1, v2, v3, v4, v5, v6, v7] = #[.int .i64 v0, .int .i64 v1, .int .i64 v2, .int .i64 v3, .int .i64 v4, .int .i64 v5, .int .i64 v6, .int .i64 v7] from rfl, show iv [x0, x1, x2, x3, x4, x5, x6, x7, x8, x9, x10, x11, x12] = #[.int .i64 x0, .int .i64 x1, .int .i64 x2, .int .i64 x3, .int .i64 x4, .int .i64 x5, .int .i64 x6, .int .i64 x7, .int .i64 x8, .int .i64 x9, .int .i64 x10, .int .i64 x11, .int .i64 x12] from rfl] at hlk
    rw [hxx, show iv ([x0, x1, x2, x3, x4, x5, x6, x7, x8, x9, x10, x11, x12].take 6) = #[.int .i64 x0, .int .i64 x1, .int .i64 x2, .int .i64 x3, .int .i64 x4, .int .i64 x5] from rfl] at hw4
    rw [hv, show iv [v0, v1, v2, v3, v4, v5, v6, v7] = #[.int .i64 v0, .int .i64 v1, .int .i64 v2, .int .i64 v3, .int .i64 v4, .int .i64 v5, .int .i64 v6, .int .i64 v7] from rfl]
    have HB4 := Lib.hid hb4
    clear hO1 hT1' hb3 hb4 q4 q5 hs4 hin x0' x1' hLO h13 h13' hK8 hv hxx
    go_wp2_with (go_at_call 61; refine hcl.mono ?_; rintro e w5 ⟨ca, cc, rfl, ho5, hb5⟩)
    have HD : Hid (RetSB w (nI (firstN k zs)) true (.returned (.tuple #[.slice ca k cc, .bool true])) w5) := Lib.hid ⟨ca, cc, by rw [nI_len, HL.out], by rw [nI_len, HL.out]; unfold OwnI; rw [nI_len, HL.out]; exact ho5.base HB4.out.size, HB4.out.trans (hb5.mono HB4.out.size)⟩
    clear ho5 hb5
    go_ret2
    rw [HR.out]
    exact HD.out

end Go.Proofs.YtjclfpcnfmpjdaaDoor
