/- It is proved that the call of the law FnBad returns true; conditions: those of each statement. -/
import Derived.RowKit
import Derived.Laws.CopyRow
import Derived.Lib.SlBuf
import Derived.Deep.QuietTactic
import Derived.RangeFuncNested
import Derived.RangeFuncBound
import Derived.RangeFuncCalls
import Derived.RangeFuncLeaves
import Derived.RangeFuncBox
import Derived.RangeFuncWrites
import Derived.StillTailTactics
import Derived.Maps.OwnIn
import Derived.Maps.Ext
import Derived.DeepKeys4
import Derived.MapKept
import Derived.Test.YtemolmkkiagiiaaDoorRows
import Derived.WalkKit
import Derived.WalkSpells
import Derived.ProofKit
import Derived.OpenShut
import Derived.ShutString
import Derived.ChangeOld
import Derived.Below
import Derived.Deep.RegionHeld3
import Derived.BigQuiet
import Derived.Lib.Hide
import Derived.Lib.SmallJoins
import Derived.Outline
import Derived.Laws.MakeOwn
import Derived.Laws.OwnMore
import Derived.IntWalk
import Derived.Maps.AppendAt
import Derived.Deep.RegionLaw
import Derived.Deep.AppendLies
import Derived.Lib.AppendZeros
import Derived.OwnWalk
import Derived.Lib.SlicesCompact
import Derived.Lib.OwnBridge
import Derived.OrdersIn
import Derived.TacticsIn
import Derived.Shelf.Sort.Plain
import Derived.Shelf.Slices.In.SortNone
import Derived.Shelf.Slices.CompactI
import Derived.Ground.Names2Prog
import Derived.Lib.SliceRun
import Derived.Shelf.RegionOpen
import Derived.Shelf.Abstract
import Derived.OwnWalkIn
import Derived.TacticsInMore
import Derived.LoopNIn
import Derived.LoopIn
import Derived.StillTail
import Derived.StillTactics
import Derived.Shelf.Spec.TrailingZeros
import Derived.Test.YtemolmkkiagiiaaDoorKa
import Derived.Test.YtemolmkkiagiiaaDoorPaar
import Derived.Test.YtemolmkkiagiiaaDoorPaau
import Derived.Test.YtemolmkkiagiiaaDoorPaaa
import Derived.Test.YtemolmkkiagiiaaDoorPaac
import Derived.Test.YtemolmkkiagiiaaDoorPaad
import Derived.Test.YtemolmkkiagiiaaDoorPaab
import Derived.Test.YtemolmkkiagiiaaDoorPaae
namespace Go.Proofs.YtemolmkkiagiiaaDoor
open Go.RowKit

set_option maxRecDepth 100000 in
theorem lawSizeW_any (z : Nat) (w : World) (h : z < 256) : Calls Tryd.prog 37 #[.int .i64 (z : Int)] w fun e w' => e = .returned (.int .i64 ((cntK 8 z : Nat) : Int)) ∧ w = w' := by
  go_enter Tryd.func37, Tryd.ntmps37
  go_wp2
  go_loop [0, 3] (fun s n => ∃ t k : Nat, t < 256 ∧ k + cntK 8 t = cntK 8 z ∧ s = .int .i64 (t : Int) ∧ n = .int .i64 (k : Int)) (fun s _ => (intOf s).toNat)
  case atStart => exact ⟨z, 0, h, by omega, rfl, rfl⟩
  case round =>
    obtain ⟨t, k, ht, hk, rfl, rfl⟩ := hrel
    have hz8 := cntK_bound 8 z
    have hk8 : k ≤ 8 := by omega
    have hlow := low8_fin ⟨t, ht⟩
    have hhf := cnt8_half ⟨t, ht⟩
    simp only at hlow hhf
    have HK := Lib.hid hk
    have HH := Lib.hid hhf
    have hm2 : t % 2 < 2 := Nat.mod_lt _ (by decide)
    obtain ⟨r, hr⟩ : ∃ r, r = t % 2 := ⟨_, rfl⟩
    rw [← hr] at hlow hm2
    have HR := Lib.hid hr
    have htI : (t : Int) ≤ 255 := by omega
    have hkI : (k : Int) ≤ 8 := by omega
    have hrI : (r : Int) ≤ 1 := by omega
    clear hk hhf hr
    by_cases h0 : 0 < t
    · have h0I : (0 : Int) < (t : Int) := by omega
      go_wp2
      go_round
      case rel => exact ⟨t / 2, k + r, by omega, by have := HK.out; have := HH.out; have := HR.out; omega, by go_num, by go_num⟩
      case measure => simp [intOf]; omega
    · have ht0 : t = 0 := by omega
      have e0 : cntK 8 t = 0 := by rw [ht0]; unfold cntK; rw [memK_zero]; rfl
      have HE : Hid (cntK 8 z = k) := Lib.hid (by have := HK.out; omega)
      have h0I : ¬ ((0 : Int) < (t : Int)) := by omega
      clear ht0 e0
      go_wp2
      go_ret
      exact ⟨by rw [HE.out]; rfl, rfl⟩

theorem bad_facts {m : Int} {zs : List Int} (h : badB m zs = true) :
    ∃ g : Nat, badZ m zs = (g : Int) ∧ 0 < g ∧ g < 2 ^ zs.length ∧ cntK 8 (togK zs g) < cntK 8 g ∧ zs.length ≤ 8 ∧ ∀ z ∈ zs, 0 ≤ z ∧ z.toNat < 64 := by
  have h' := h
  unfold badB at h'
  rw [Bool.and_eq_true] at h'
  obtain ⟨hf, hs⟩ := h'
  obtain ⟨k, rfl, hk1, hk6, hS, hl8⟩ := fam_nat2 hf
  obtain ⟨g, hg⟩ := Option.isSome_iff_exists.1 hs
  have hz : badZ (k : Int) zs = (g : Int) := by unfold badZ; rw [hf, if_pos rfl, hg]; rfl
  have hov := List.find?_some hg
  have hov2 : 0 < overP zs g := by simpa using hov
  refine ⟨g, hz, ?_, badF_lt hg, ?_, hl8, fun z hzm => ⟨(hS z hzm).1, p64 hk6 (hS z hzm).2⟩⟩
  · rcases Nat.eq_zero_or_pos g with e | e
    · rw [e, overP_zero] at hov2; omega
    · exact e
  · unfold overP at hov2
    omega

end Go.Proofs.YtemolmkkiagiiaaDoor

/- It is proved what CoverPack of the program returns; conditions: those of each statement. -/
namespace Go.Proofs.YtemolmkkiagiiaaDoor
open Go.RowKit Go.Shelf

attribute [local go_sem] Oper.semAt_some

theorem n08 {n : Nat} (h : n ≤ 8) : n = 0 ∨ n = 1 ∨ n = 2 ∨ n = 3 ∨ n = 4 ∨ n = 5 ∨ n = 6 ∨ n = 7 ∨ n = 8 := by omega
set_option maxRecDepth 100000 in
theorem places_any (m : Int) (a : Option Addr) (n c : Nat) (w : World) (hn : n ≤ 8) :
    Calls Tryd.prog 68 #[.agg #[.int .i64 m, .slice a n c]] w fun e w' => e = .returned (.int .i64 ((2 ^ n - 1 : Nat) : Int)) ∧ w' = w.alloc (.cells #[.int .i64 m, .slice a n c] 25) := by
  rcases n08 hn with rfl | rfl | rfl | rfl | rfl | rfl | rfl | rfl | rfl
  all_goals
    go_enter Tryd.func68, Tryd.ntmps68
    go_wp2
    go_ret
    exact ⟨rfl, rfl⟩

end Go.Proofs.YtemolmkkiagiiaaDoor

/- It is proved what FamilyAll of the program and of the model return; conditions: those of each statement. -/
namespace Go.Proofs.YtemolmkkiagiiaaDoor
open Go.RowKit Go.Shelf

attribute [local go_sem] Oper.semAt_some

/-- What a function of an int and a bool returns; nothing that lay has turned. -/
def RetIB (w : World) (r : Int) (ok : Bool) (e : Ending) (w' : World) : Prop := e = .returned (.tuple #[.int .i64 r, .bool ok]) ∧ Below w.heap.size w w'

end Go.Proofs.YtemolmkkiagiiaaDoor

/- It is proved what FamilyAll of the program returns, and that the call of the law FnBlocked returns true; conditions: those of each statement. -/
namespace Go.Proofs.YtemolmkkiagiiaaDoor
open Go.RowKit

def allZ (m : Int) (zs : List Int) : Int := if famIn m zs then ((togK zs (2 ^ zs.length - 1) : Nat) : Int) else 0
theorem placesB_any (m : Int) (a : Option Addr) (n c : Nat) (w : World) (hn : n ≤ 8) :
    Calls Tryd.prog 68 #[.agg #[.int .i64 m, .slice a n c]] w fun e w' => e = .returned (.int .i64 ((2 ^ n - 1 : Nat) : Int)) ∧ Below w.heap.size w w' :=
  (places_any m a n c w hn).mono fun _ _ h => ⟨h.1, h.2 ▸ below1 w _⟩

set_option maxRecDepth 100000 in
set_option maxHeartbeats 4000000 in
theorem implAllT_any (m : Int) (a : Option Addr) (c : Nat) (zs : List Int) (w : World) (ha : Ints w w.heap.size a zs) (hT : Tab w) (hx : zs.length ≤ 1048576) :
    Calls Tryd.prog 36 #[.agg #[.int .i64 m, .slice a zs.length c]] w (RetIB w (allZ m zs) (famIn m zs)) := by
  have HB0 := Lib.hid (below1 w (.cells #[.int .i64 m, .slice a zs.length c] 25))
  have HA := Lib.hid (ha.below HB0.out)
  have HT := Lib.hid hT
  clear ha hT
  unfold allZ
  cases hf : famIn m zs
  · have HF := Lib.hid hf
    clear hf
    go_enter Tryd.func36, Tryd.ntmps36
    go_wp2_with fail
    refine (implFamilyIn_any _ _ _ zs _ (HA.out.mono (by simp)) hx).mono ?_
    rintro e w1 ⟨rfl, hb⟩
    rw [HF.out]
    have HB := Lib.hid (HB0.out.trans (hb.mono (by simp)))
    clear hb
    go_wp2
    go_ret2
    exact ⟨rfl, HB.out⟩
  · have HF := Lib.hid hf
    obtain ⟨k, rfl, hk1, hk6, hset, hl8⟩ := fam_nat2 hf
    have HSET := Lib.hid hset
    obtain ⟨PL, hPL⟩ : ∃ PL, PL = 2 ^ zs.length - 1 := ⟨_, rfl⟩
    have HPL : Hid (PL < 2 ^ zs.length) := Lib.hid (by have := Nat.two_pow_pos zs.length; omega)
    have HPA := Lib.hid (fun W => placesB_any (k : Int) a zs.length c W hl8)
    rw [← hPL] at HPA ⊢
    clear hf hset hPL
    go_enter Tryd.func36, Tryd.ntmps36
    go_wp2_with fail
    refine (implFamilyIn_any _ _ _ zs _ (HA.out.mono (by simp)) hx).mono ?_
    rintro e w1 ⟨rfl, hb⟩
    rw [HF.out]
    have b0 : w1.heap[w.heap.size]? = some (.cells #[.int .i64 (k : Int), .slice a zs.length c] 25 (0, 0)) := (hb.block _ (by simp)).trans (alloc_new w _)
    have x0 := (blk_cell b0 0).trans (cell2_0 _ _)
    have x1 := (blk_cell b0 1).trans (cell2_1 _ _)
    have z1 : w.heap.size < w1.heap.size := lt_of_some b0
    have HB := Lib.hid (HB0.out.trans (hb.mono (by simp)))
    have HI1 := Lib.hid ((HA.out.below (hb.mono (by simp))).mono (show w.heap.size ≤ w1.heap.size by omega))
    have HT1 := Lib.hid (HT.out.below HB.out HT.out.lt)
    have Z1 := Lib.hid z1
    clear hb b0 z1
    go_wp2_with fail
    go_region_held3 (fun w' => w'.cell? ⟨w.heap.size, 0, none⟩ = some (.int .i64 (k : Int)) ∧ w'.cell? ⟨w.heap.size, 1, none⟩ = some (.slice a zs.length c))
      (first
        | exact ⟨x0, x1⟩
        | exact ⟨(hb2.cell (p := ⟨w.heap.size, 0, none⟩) Z1.out).trans x0, (hb2.cell (p := ⟨w.heap.size, 1, none⟩) Z1.out).trans x1⟩
        | exact ⟨((hb4.cell (p := ⟨w.heap.size, 0, none⟩) (Nat.lt_of_lt_of_le Z1.out hb2.size)).trans (hb2.cell (p := ⟨w.heap.size, 0, none⟩) Z1.out)).trans x0, ((hb4.cell (p := ⟨w.heap.size, 1, none⟩) (Nat.lt_of_lt_of_le Z1.out hb2.size)).trans (hb2.cell (p := ⟨w.heap.size, 1, none⟩) Z1.out)).trans x1⟩)
      (first
        | (go_at_call 68; refine (HPA.out _).mono ?_; rintro e w2 ⟨rfl, hb2⟩)
        | (go_at_call 67; refine (together_any k hk6 a c zs PL _ (((show Ints w1.drew w1.drew.heap.size a zs from HI1.out).below hb2).mono hb2.size) hl8 HSET.out HPL.out ((show Tab w1.drew from HT1.out).below hb2 (show Tab w1.drew from HT1.out).lt)).mono ?_; rintro e w4 ⟨rfl, hb4⟩))
    have HR := Lib.hid ((HB.out.drew.trans (hb2.mono (show w.heap.size ≤ w1.heap.size from Nat.le_of_lt Z1.out))).trans (hb4.mono (Nat.le_trans (show w.heap.size ≤ w1.heap.size from Nat.le_of_lt Z1.out) hb2.size)))
    rename_i hHeldX
    clear hHeldX hb2 hb4
    go_wp2
    go_ret2
    exact ⟨by simp, HR.out⟩

end Go.Proofs.YtemolmkkiagiiaaDoor
