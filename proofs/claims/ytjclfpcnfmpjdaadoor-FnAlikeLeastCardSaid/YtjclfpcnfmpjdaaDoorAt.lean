/- It is proved what AlikeSame of the program returns; conditions: those of each statement. -/
import Derived.RowKit
import Derived.Laws.CopyRow
import Derived.Lib.SlBuf
import Derived.Deep.QuietTactic
import Derived.RangeFuncNested
import Derived.RangeFuncBound
import Derived.RangeFuncCalls
import Derived.RangeFuncLeaves
import Derived.RangeFuncBox
import Derived.RangeFuncWrites
import Derived.StillTailTactics
import Derived.Maps.OwnIn
import Derived.Maps.Ext
import Derived.DeepKeys4
import Derived.MapKept
import Derived.Test.YtjclfpcnfmpjdaaDoorRows
import Derived.WalkKit
import Derived.WalkSpells
import Derived.ProofKit
import Derived.OpenShut
import Derived.ShutString
import Derived.ChangeOld
import Derived.Below
import Derived.Deep.RegionHeld3
import Derived.BigQuiet
import Derived.Lib.Hide
import Derived.Lib.SmallJoins
import Derived.Outline
import Derived.Laws.MakeOwn
import Derived.Laws.OwnMore
import Derived.IntWalk
import Derived.Lib.AppendZeros
import Derived.Maps.AppendAt
import Derived.Deep.AppendLies
import Derived.OwnWalk
import Derived.Lib.SlicesCompact
import Derived.Lib.OwnBridge
import Derived.OrdersIn
import Derived.TacticsIn
import Derived.Shelf.Sort.Plain
import Derived.Shelf.Slices.In.SortNone
import Derived.Shelf.Slices.CompactI
import Derived.Ground.Names2Prog
import Derived.Shelf.Abstract
import Derived.Shelf.RegionOpen
import Derived.OwnWalkIn
import Derived.TacticsInMore
import Derived.LoopNIn
import Derived.LoopIn
import Derived.StillTail
import Derived.StillTactics
import Derived.Shelf.Spec.TrailingZeros
import Derived.Test.YtjclfpcnfmpjdaaDoorMo
import Derived.Test.YtjclfpcnfmpjdaaDoorAp
import Derived.Test.YtjclfpcnfmpjdaaDoorAs
import Derived.Test.YtjclfpcnfmpjdaaDoorO
namespace Go.Proofs.YtjclfpcnfmpjdaaDoor
open Go.RowKit Go.Shelf Go.Maps

/-- All names that make a family's clubs its own. -/
def ownL (k : Nat) (zs : List Int) : List (List Nat) := (permsL k (List.range k)).filter fun p => keyL zs (nI p) == keyL zs (nI (List.range k))

def sameZ (m : Int) (zs : List Int) : Int := if famIn m zs then ((ownL m.toNat zs).length : Int) else 0
theorem nm_count : ∀ (L : List (List Nat)) (x : List Int), x.length = 13 → (∀ p ∈ L, NamesOk (nI p)) → (L.foldl (fun x p => andL x (nI p)) x)[6]?.getD 0 = x[6]?.getD 0 + (L.length : Int)
  | [], x, _, _ => by simp
  | p :: L, x, hx, hp => by
    have h6 := (hp p (by simp)).1
    rw [List.foldl_cons, nm_count L _ (by rw [andL, andC_len, andM_len (by omega), hx]) (fun q hq => hp q (by simp [hq])), andL_six hx h6, List.length_cons]
    omega

theorem same_six (k : Nat) (hk0 : 1 ≤ k) (hk : k ≤ 6) (zs : List Int) : (nmL zs (permsL k (List.range k)) (keyL zs (nI (List.range k))))[6]?.getD 0 = ((ownL k zs).length : Int) := by
  unfold nmL ownL
  rw [nm_count _ zero13 rfl (fun p hp => by
    have hp := (List.mem_filter.1 hp).1
    rw [← lvlL_perms] at hp
    exact namesOk_nI hk0 hk (lvlL_in hp) (lvlL_lt hp))]
  simp [zero13]

theorem field_six (x0 x1 x2 x3 x4 x5 x6 x7 x8 x9 x10 x11 x12 : Int) (w : World) : (Instr.field 78 (.agg #[.int .i64 x0, .int .i64 x1, .int .i64 x2, .int .i64 x3, .int .i64 x4, .int .i64 x5, .int .i64 x6, .int .i64 x7, .int .i64 x8, .int .i64 x9, .int .i64 x10, .int .i64 x11, .int .i64 x12]) 1).run Tryd.prog w = .ok (.int .i64 x6) w := by kernel_rfl
set_option maxRecDepth 100000 in
set_option maxHeartbeats 4000000 in
theorem implSame_any (m : Int) (a : Option Addr) (c : Nat) (zs : List Int) (w : World) (ha : Ints w w.heap.size a zs) (hT : Tab w) (hx : zs.length ≤ 1048576) :
    Calls Tryd.prog 27 #[.agg #[.int .i64 m, .slice a zs.length c]] w (RetIB w (sameZ m zs) (famIn m zs)) := by
  have HA := Lib.hid ((ha.below (below1 w (.cells #[.int .i64 m, .slice a zs.length c] 25))).mono (B' := (w.alloc (.cells #[.int .i64 m, .slice a zs.length c] 25)).heap.size) (by simp))
  cases hf : famIn m zs
  · have HF := Lib.hid hf
    have HR : Hid (sameZ m zs = 0) := Lib.hid (by simp [sameZ, hf])
    clear hf ha
    go_enter Tryd.func27, Tryd.ntmps27
    go_wp2_with (go_at_call 46; refine (implFamilyIn_any _ _ _ zs _ HA.out hx).mono ?_; rintro e w1 ⟨rfl, hb⟩; rw [HF.out]; have HB := Lib.hid hb; clear hb)
    go_ret2
    exact ⟨by rw [HR.out]; rfl, (below1 _ _).trans (HB.out.mono (by simp))⟩
  · have HF := Lib.hid hf
    obtain ⟨hm1, hm6, hl8, -⟩ := famIn_out hf
    obtain ⟨k, rfl⟩ : ∃ k : Nat, m = (k : Int) := ⟨m.toNat, by omega⟩
    have hk0 : 1 ≤ k := by omega
    have hk6 : k ≤ 6 := by omega
    have HR : Hid (sameZ (k : Int) zs = (nmL zs (permsL k (List.range k)) (keyL zs (nI (List.range k))))[6]?.getD 0) := Lib.hid (by rw [same_six k hk0 hk6 zs]; simp [sameZ, hf])
    have hnm : NmOk (nmL zs (permsL k (List.range k)) (keyL zs (nI (List.range k)))) (permsL k (List.range k)).length := nmOk_all _ _ _ (fun p hp => by
      rw [← lvlL_perms] at hp
      exact namesOk_nI hk0 hk6 (lvlL_in hp) (lvlL_lt hp))
    obtain ⟨x0, x1, x2, x3, x4, x5, x6, x7, x8, x9, x10, x11, x12, hxx⟩ : ∃ x0 x1 x2 x3 x4 x5 x6 x7 x8 x9 x10 x11 x12 : Int, nmL zs (permsL k (List.range k)) (keyL zs (nI (List.range k))) = [x0, x1, x2, x3, x4, x5, x6, x7, x8, x9, x10, x11, x12] := by
      have h13 := hnm.len
      generalize nmL zs (permsL k (List.range k)) (keyL zs (nI (List.range k))) = L at h13
      match L, h13 with
      | [x0, x1, x2, x3, x4, x5, x6, x7, x8, x9, x10, x11, x12], _ => exact ⟨_, _, _, _, _, _, _, _, _, _, _, _, _, rfl⟩
    have HX := Lib.hid hxx
    have HT := Lib.hid hT
    have HI := Lib.hid ha
    have hmm := @run_makeMap Tryd.prog
    have hfs := field_six
    have hT1 := hT.lt
    clear hf ha hnm hxx hT
    go_enter Tryd.func27, Tryd.ntmps27
    go_wp2_with fail
    refine (implFamilyIn_any _ _ _ zs _ HA.out hx).mono ?_
    rintro e w1 ⟨rfl, hb⟩
    rw [HF.out]
    have q0 : HasBlk w1 w.heap.size #[.int .i64 (k : Int), .slice a zs.length c] 25 := (hb.block _ (by simp)).trans (alloc_new w _)
    have hs1 : w.heap.size + 1 ≤ w1.heap.size := by have := hb.size; simpa using this
    have hbw : Below w.heap.size w w1 := (below1 w _).trans (hb.mono (by simp))
    have hb2 : Below w.heap.size w (w1.alloc (.map #[] 0)) := hbw.alloc (by omega) _
    have q2 : HasBlk (w1.alloc (.map #[] 0)) w.heap.size #[.int .i64 (k : Int), .slice a zs.length c] 25 := HasBlk.alloc q0 _
    have x0' := (blk_cell q2 0).trans (cell2_0 _ _)
    have x1' := (blk_cell q2 1).trans (cell2_1 _ _)
    have hown : OwnT (w1.alloc (.map #[] 0)) w1.heap.size 0 (.map []) := World.ownsMap_made w1 _ _ _
    have hK := keeping_any k hk0 hk6 a c zs (w1.alloc (.map #[] 0)) ((HI.out.below hb2).mono (by simp; omega)) (HT.out.below hb2 hT1) HF.out w1.heap.size 0 (.map []) (by omega) hown
    have HB2 := Lib.hid hb2
    clear hb q0 hbw hb2 q2 hown
    go_wp2_with (go_at_call 65; refine hK.mono ?_; rintro e w3 ⟨rfl, hb3⟩; rw [HX.out]; rw [show iv [x0, x1, x2, x3, x4, x5, x6, x7, x8, x9, x10, x11, x12] = #[.int .i64 x0, .int .i64 x1, .int .i64 x2, .int .i64 x3, .int .i64 x4, .int .i64 x5, .int .i64 x6, .int .i64 x7, .int .i64 x8, .int .i64 x9, .int .i64 x10, .int .i64 x11, .int .i64 x12] from rfl]; have HB3 := Lib.hid hb3; clear hb3)
    go_ret2
    refine ⟨by rw [HR.out, HX.out]; rfl, ?_⟩
    exact HB2.out.trans (HB3.out.below (by simp; omega) (fun i e => by omega))

end Go.Proofs.YtjclfpcnfmpjdaaDoor
