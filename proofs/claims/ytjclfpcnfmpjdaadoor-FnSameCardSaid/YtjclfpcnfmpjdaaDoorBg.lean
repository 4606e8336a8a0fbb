/- It is proved what the reference model's AlikeSame returns; conditions: those of each statement. -/
import Derived.RowKit
import Derived.Laws.CopyRow
import Derived.Lib.SlBuf
import Derived.Deep.QuietTactic
import Derived.RangeFuncNested
import Derived.RangeFuncBound
import Derived.RangeFuncCalls
import Derived.RangeFuncLeaves
import Derived.RangeFuncBox
import Derived.RangeFuncWrites
import Derived.StillTailTactics
import Derived.Maps.OwnIn
import Derived.Maps.Ext
import Derived.DeepKeys4
import Derived.MapKept
import Derived.Test.YtjclfpcnfmpjdaaDoorRows
import Derived.WalkKit
import Derived.WalkSpells
import Derived.ProofKit
import Derived.OpenShut
import Derived.ShutString
import Derived.ChangeOld
import Derived.Below
import Derived.Deep.RegionHeld3
import Derived.BigQuiet
import Derived.Lib.Hide
import Derived.Lib.SmallJoins
import Derived.Outline
import Derived.Laws.MakeOwn
import Derived.Laws.OwnMore
import Derived.IntWalk
import Derived.Maps.AppendAt
import Derived.Lib.AppendZeros
import Derived.Deep.AppendLies
import Derived.OwnWalk
import Derived.Lib.SlicesCompact
import Derived.Lib.OwnBridge
import Derived.OrdersIn
import Derived.TacticsIn
import Derived.Shelf.Sort.Plain
import Derived.Shelf.Slices.In.SortNone
import Derived.Shelf.Slices.CompactI
import Derived.Ground.Names2Prog
import Derived.Shelf.Abstract
import Derived.Shelf.RegionOpen
import Derived.OwnWalkIn
import Derived.TacticsInMore
import Derived.LoopNIn
import Derived.LoopIn
import Derived.StillTail
import Derived.StillTactics
import Derived.Shelf.Spec.TrailingZeros
import Derived.Test.YtjclfpcnfmpjdaaDoorMpa
import Derived.Test.YtjclfpcnfmpjdaaDoorMpb
import Derived.Test.YtjclfpcnfmpjdaaDoorBf
import Derived.Test.YtjclfpcnfmpjdaaDoorG
namespace Go.Proofs.YtjclfpcnfmpjdaaDoor
open Go.RowKit Go.Shelf

set_option maxRecDepth 100000 in
set_option maxHeartbeats 2000000 in
theorem specSame_any (m : Int) (a : Option Addr) (c : Nat) (zs : List Int) (w : World) (ha : Ints w w.heap.size a zs) (hx : zs.length ≤ 1048576) :
    Calls Tryd.prog 28 #[.agg #[.int .i64 m, .slice a zs.length c]] w (RetIB w (sameZ m zs) (famIn m zs)) := by
  have hb1 := below1 w (.cells #[.int .i64 m, .slice a zs.length c] 25)
  have HA := Lib.hid ((ha.below hb1).mono (B' := (w.alloc (.cells #[.int .i64 m, .slice a zs.length c] 25)).heap.size) (by simp))
  cases hf : famIn m zs
  · have HF := Lib.hid hf
    have HR : Hid (sameZ m zs = 0) := Lib.hid (by simp [sameZ, hf])
    clear hf ha hb1
    go_enter Tryd.func28, Tryd.ntmps28
    go_wp2_with (go_at_call 48; refine (specFamilyIn_any _ _ _ zs _ HA.out hx).mono ?_; rintro e w1 ⟨rfl, hb⟩; rw [HF.out]; have HB := Lib.hid hb; clear hb)
    go_ret2
    exact ⟨by rw [HR.out]; rfl, (below1 _ _).trans (HB.out.mono (by simp))⟩
  · obtain ⟨hm1, hm6, -, -⟩ := famIn_out hf
    obtain ⟨k, rfl⟩ : ∃ k : Nat, m = (k : Int) := ⟨m.toNat, by omega⟩
    have hk6 : k ≤ 6 := by omega
    have HF := Lib.hid hf
    have HR : Hid (sameZ (k : Int) zs = (((ownL k zs).map nI).length : Int)) := Lib.hid (by simp [sameZ, hf])
    have q0 := alloc_new w (.cells #[.int .i64 (k : Int), .slice a zs.length c] 25)
    have hs1 : (w.alloc (.cells #[.int .i64 (k : Int), .slice a zs.length c] 25)).heap.size = w.heap.size + 1 := by simp
    have HB1 := Lib.hid hb1
    have HQ := Lib.hid q0
    have HS1 := Lib.hid hs1
    clear hf ha hb1 q0 hs1
    go_enter Tryd.func28, Tryd.ntmps28
    go_wp2_with fail
    refine (specFamilyIn_any _ _ _ zs _ HA.out hx).mono ?_
    rintro e w1 ⟨rfl, hb⟩
    rw [HF.out]
    have q1 : HasBlk w1 w.heap.size #[.int .i64 (k : Int), .slice a zs.length c] 25 := (hb.block _ (by have := HS1.out; omega)).trans HQ.out
    have x0 := (blk_cell q1 0).trans (cell2_0 _ _)
    have x1 := (blk_cell q1 1).trans (cell2_1 _ _)
    have hO := specOwn_any k hk6 a c zs w1 ((HA.out.below hb).mono hb.size) HF.out
    have HB := Lib.hid hb
    clear hb q1
    go_wp2_with fail
    refine hO.mono ?_
    rintro e w2 ⟨v, rfl, hR, hb2⟩
    obtain ⟨va, vc, rfl⟩ := hR.form
    have hl : ((ownL k zs).map nI).length ≤ 46656 := by rw [← ownF_all]; exact ownF_len k zs hk6 _
    obtain ⟨L, hL⟩ : ∃ L, L = ((ownL k zs).map nI).length := ⟨_, rfl⟩
    rw [← hL] at HR hl ⊢
    clear hR hL x0 x1 hO
    go_wp2
    go_ret2
    exact ⟨by rw [HR.out]; rfl, HB1.out.trans ((HB.out.mono (by rw [HS1.out]; omega)).trans (hb2.mono (by have := HB.out.size; have := HS1.out; omega)))⟩

end Go.Proofs.YtjclfpcnfmpjdaaDoor
