/- It is proved that the family drawn for least colours is the call's own; conditions: those of each statement. -/
import Derived.Test.YtacglafoahmcnaaDoorRows
import Derived.WalkKit
import Derived.WalkSpells
import Derived.ProofKit
import Derived.OpenShut
import Derived.ShutString
import Derived.ChangeOld
import Derived.Below
import Derived.Deep.RegionHeld3
import Derived.Deep.QuietTactic
import Derived.BigQuiet
import Derived.Lib.Hide
import Derived.Lib.SmallJoins
import Derived.Outline
import Derived.Laws.MakeOwn
import Derived.Laws.OwnMore
import Derived.IntWalk
import Derived.Deep.RegionLaw
import Derived.Deep.AppendLies
import Derived.Deep.RegionWith
import Derived.OrdersIn
import Derived.TacticsIn
import Derived.Orders
import Derived.Tactics
import Derived.StillTailTactics
import Derived.RangeFuncNested
import Derived.RangeFuncBound
import Derived.RangeFuncCalls
import Derived.RangeFuncLeaves
import Derived.RangeFuncBox
import Derived.Shelf.Abstract
import Derived.Shelf.RegionOpen
import Derived.OwnWalkIn
import Derived.TacticsInMore
import Derived.LoopNIn
import Derived.LoopIn
import Derived.Maps.AppendAt
import Derived.OwnWalk
import Derived.Shelf.Spec.TrailingZeros
import Derived.Test.YtacglafoahmcnaaDoorRaaa
import Derived.Test.YtacglafoahmcnaaDoorRaac
import Derived.Test.YtacglafoahmcnaaDoorDb
import Derived.Test.YtacglafoahmcnaaDoorRaap
import Derived.Test.YtacglafoahmcnaaDoorRabexFnColo
import Derived.Test.YtacglafoahmcnaaDoorRabfxFnColo
import Derived.Test.YtacglafoahmcnaaDoorRaab
import Derived.Test.YtacglafoahmcnaaDoorRaad
import Derived.RowKit
import Derived.Laws.CopyRow
import Derived.Lib.SlBuf
import Derived.RangeFuncWrites
import Derived.Maps.OwnIn
import Derived.Maps.Ext
import Derived.DeepKeys4
import Derived.MapKept
import Derived.Lib.AppendZeros
import Derived.Lib.SlicesCompact
import Derived.Lib.OwnBridge
import Derived.Shelf.Sort.Plain
import Derived.Shelf.Slices.In.SortNone
import Derived.Shelf.Slices.CompactI
import Derived.Ground.Names2Prog
import Derived.Lib.SliceRun
import Derived.StillTail
import Derived.StillTactics
import Derived.Deep.LoopGhost
import Derived.Test.YtacglafoahmcnaaDoorRabaxFnColo
import Derived.Test.YtacglafoahmcnaaDoorRabbxFnColo
import Derived.Test.YtacglafoahmcnaaDoorRaae
namespace Go.Proofs.YtacglafoahmcnaaDoor
open Go.RowKit

/-- What the drawn region of a round keeps. -/
structure ClRel (W0 : World) (X F g j : Nat) (m : Int) (n c2 : Nat) (ys : List Int) (a : Option Addr) (k cap N : Nat) (e41 : Int) (l12 l21 lall : Bool) (W : World) : Prop where
  r1 : l21 = false → OwnI W (X + 2) (.slice (some ⟨g, 0, none⟩) n c2) ys ∧ HasBlk W X #[.int .i64 0, .slice none 0 0] 25 ∧ HasBlk W F #[.int .i64 m, .slice (some ⟨g, 0, none⟩) n c2] 25 ∧ DS W0 (X + 1) a k cap (bif l12 then 201 + j else 200 + j) W
  r2 : l21 = true → lall = true ∧ OwnI W (X + 2) (.slice (some ⟨g, 0, none⟩) n c2) (ys.set j e41) ∧ HasBlk W X #[.int .i64 0, .slice none 0 0] 25 ∧ HasBlk W F #[.int .i64 m, .slice (some ⟨g, 0, none⟩) n c2] 25 ∧ DS W0 (X + 1) a k cap (201 + j) W
  r3 : l12 = true → N < 64

theorem arr22 (l : Array Bool) (h : l.size = 22) : ∃ l0 l1 l2 l3 l4 l5 l6 l7 l8 l9 l10 l11 l12 l13 l14 l15 l16 l17 l18 l19 l20 l21, l = #[l0, l1, l2, l3, l4, l5, l6, l7, l8, l9, l10, l11, l12, l13, l14, l15, l16, l17, l18, l19, l20, l21] := by
  obtain ⟨L⟩ := l
  match L, h with
  | [l0, l1, l2, l3, l4, l5, l6, l7, l8, l9, l10, l11, l12, l13, l14, l15, l16, l17, l18, l19, l20, l21], _ => exact ⟨_, _, _, _, _, _, _, _, _, _, _, _, _, _, _, _, _, _, _, _, _, _, rfl⟩

set_option maxRecDepth 100000 in
set_option maxHeartbeats 40000000 in
theorem drawColourLeast_any (a : Option Addr) (n cap : Nat) (w : World) (hb : Bys w w.heap.size a n) (hn : n ≤ 1048576) (hc : n ≤ cap) (hc2 : cap ≤ 9223372036854775807) :
    Calls Tryd.prog 26 #[.slice a n cap] w (DrawnOne w) := by
  have ha : n ≠ 0 → ∃ g off, a = some ⟨g, off, none⟩ := fun h => by obtain ⟨g, off, e, _⟩ := hb.resolve_left h; exact ⟨g, off, e⟩
  have HB := Lib.hid hb
  clear hb
  go_enter Tryd.func26, Tryd.ntmps26
  go_wp2_with fail
  refine (openD_any a n cap _ hn hc hc2 ha).mono ?_
  rintro e w1 ⟨k, hk, rfl, rfl⟩
  have b1 := below2 w (.cells #[.int .i64 0, .slice none 0 0] 25) (.cells #[.slice a k cap, .int .i64 0] 97)
  have HD1 : Hid (DS ((w.alloc (.cells #[.int .i64 0, .slice none 0 0] 25)).alloc (.cells #[.slice a k cap, .int .i64 0] 97)) (w.heap.size + 1) a k cap 0 ((w.alloc (.cells #[.int .i64 0, .slice none 0 0] 25)).alloc (.cells #[.slice a k cap, .int .i64 0] 97))) := Lib.hid ⟨⟨0, Nat.le_refl _, alloc2_1 w _ _⟩, World.grownBy.refl _ _⟩
  have HB1 := Lib.hid ((HB.out.below b1).fewer (B' := w.heap.size + 1) (by omega) hk)
  have HX : Hid (HasBlk ((w.alloc (.cells #[.int .i64 0, .slice none 0 0] 25)).alloc (.cells #[.slice a k cap, .int .i64 0] 97)) w.heap.size #[.int .i64 0, .slice none 0 0] 25) := Lib.hid (alloc2_0 w _ _)
  have HBL := Lib.hid b1
  have hs1 : ((w.alloc (.cells #[.int .i64 0, .slice none 0 0] 25)).alloc (.cells #[.slice a k cap, .int .i64 0] 97)).heap.size = w.heap.size + 2 := by simp
  clear b1
  have hkn : k ≤ 1048576 := by omega
  go_wp2_with fail
  refine (someD_any 5 6 5 6 rfl rfl (by decide) (by decide) (by decide) (w.heap.size + 1) a k cap 0 _ HD1.out HB1.out (by simp) (by omega) (by omega)).mono ?_
  rintro e w2 ⟨m, a2, zs, c2, rfl, ⟨hl, hm1, hm6⟩, ho, D2⟩
  obtain ⟨W0, hW0⟩ : ∃ W0, W0 = (w.alloc (.cells #[.int .i64 0, .slice none 0 0] 25)).alloc (.cells #[.slice a k cap, .int .i64 0] 97) := ⟨_, rfl⟩
  rw [← hW0] at D2 HX hs1 HB1 HBL ho
  clear hW0 HD1
  have hR : w.heap.size + 1 < W0.heap.size := by omega
  have hgb : ∀ g, (Value.slice a2 zs.length c2).ownBlock = some g → w.heap.size + 2 ≤ g ∧ g < w2.heap.size := fun g e => by have := World.ownsRow.lt ho g e; omega
  have hs2 : w.heap.size + 2 ≤ w2.heap.size := by rw [← hs1]; exact D2.gr.size
  have HO3 : Hid (OwnI (w2.alloc (.cells #[.int .i64 m, .slice a2 zs.length c2] 25)) (w.heap.size + 2) (.slice a2 zs.length c2) zs) := Lib.hid (World.ownsRow.alloc (own_mono ho (by omega)) _)
  have HX3 : Hid (HasBlk (w2.alloc (.cells #[.int .i64 m, .slice a2 zs.length c2] 25)) w.heap.size #[.int .i64 0, .slice none 0 0] 25) := Lib.hid ((HX.out.kept D2.gr (fun e => by injection e; omega)).alloc _)
  have HD3 : Hid (DS W0 (w.heap.size + 1) a k cap 200 (w2.alloc (.cells #[.int .i64 m, .slice a2 zs.length c2] 25))) := Lib.hid (D2.alloc _ hR)
  have HF3 : Hid (HasBlk (w2.alloc (.cells #[.int .i64 m, .slice a2 zs.length c2] 25)) w2.heap.size #[.int .i64 m, .slice a2 zs.length c2] 25) := Lib.hid (alloc_new w2 _)
  obtain ⟨F, hF⟩ : ∃ F, F = w2.heap.size := ⟨_, rfl⟩
  rw [← hF] at HF3 hgb hs2
  clear ho D2 HX
  have hmx : Tryd.prog.follows .mixedOrders = true := by kernel_rfl
  go_wp2
  rw [← hF]
  go_loopw [5] (fun i wr => ∃ (j : Nat) (ys : List Int), j ≤ zs.length ∧ i = .int .i64 (j : Int) ∧ ys.length = zs.length ∧ Hid (OwnI wr (w.heap.size + 2) (.slice a2 zs.length c2) ys ∧ HasBlk wr w.heap.size #[.int .i64 0, .slice none 0 0] 25 ∧ HasBlk wr F #[.int .i64 m, .slice a2 zs.length c2] 25 ∧ DS W0 (w.heap.size + 1) a k cap (200 + j) wr)) (fun i _ => zs.length - (intOf i).toNat)
  case atStart => exact ⟨0, zs, Nat.zero_le _, rfl, rfl, Lib.hid ⟨HO3.out, HX3.out, HF3.out, HD3.out⟩⟩
  case round =>
    obtain ⟨j, ys, hj, rfl, hys, HS⟩ := hrel
    clear HO3 HX3 HD3 HF3 hF
    have d0 := (blk_cell HS.out.2.2.1 0).trans (cell2_0 _ _)
    have d1 := (blk_cell HS.out.2.2.1 1).trans (cell2_1 _ _)
    have HY := Lib.hid hys
    clear hys
    by_cases hgo : (j : Int) < (zs.length : Int) ∧ 1 < m
    · obtain ⟨h1, h2⟩ := hgo
      obtain ⟨g, rfl, hbg, hgl, hcz, hfz, -⟩ := own_wr HS.out.1 (k := j) (by rw [HY.out]; omega)
      have hgF := (hgb g rfl).2
      obtain ⟨z, hz⟩ : ∃ z, z = ys[j]?.getD 0 := ⟨_, rfl⟩
      have HZ := Lib.hid hz
      rw [← hz] at hcz
      have hj0 : (0 : Int) ≤ (j : Int) := by omega
      have hm10 : (0 : Int) ≤ m - 1 := by omega
      have hm164 : m - 1 < 64 := by omega
      have hwp : IntKind.i64.wrap (m - 1) = m - 1 := by rw [IntKind.wrap_i64]; omega
      have HSd : Hid (OwnI wr.drew (w.heap.size + 2) (.slice (some ⟨g, 0, none⟩) zs.length c2) ys ∧ HasBlk wr.drew w.heap.size #[.int .i64 0, .slice none 0 0] 25 ∧ HasBlk wr.drew F #[.int .i64 m, .slice (some ⟨g, 0, none⟩) zs.length c2] 25 ∧ DS W0 (w.heap.size + 1) a k cap (200 + j) wr.drew) := Lib.hid ⟨HS.out.1, HS.out.2.1, HS.out.2.2.1, HS.out.2.2.2.drew⟩
      clear hz HS
      go_wp2
      have hPX : Hid (∀ N : Nat, N < 64 → True) := Lib.hid fun _ _ => trivial
      refine wp_region_kept (I := fun ls a' W'' => ∃ (N : Nat) (e35 e36 e40 e41 : Int), a' = { tmps := #[.slice a n cap, undef, .pointer (some ⟨w.heap.size, 0, none⟩), .pointer (some ⟨w.heap.size + 1, 0, none⟩), .pointer (some ⟨F, 0, none⟩), .int .i64 (j : Int), .slice a n cap, .pointer (some ⟨w.heap.size + 1, 0, none⟩), .pointer (some ⟨w.heap.size + 1, 0, none⟩), .agg #[.int .i64 m, .slice (some ⟨g, 0, none⟩) zs.length c2], .int .i64 (j : Int), .pointer (some ⟨F, 1, none⟩), .slice (some ⟨g, 0, none⟩) zs.length c2, .int .i64 (zs.length : Int), .bool true, .bool true, .pointer (some ⟨F, 0, none⟩), .int .i64 m, .bool true, .bool true, u20, u21, (bif ls.getD 0 false then .pointer (some ⟨F, 1, none⟩) else u22), (bif ls.getD 1 false then .slice (some ⟨g, 0, none⟩) zs.length c2 else u23), (bif ls.getD 2 false then .int .i64 (j : Int) else u24), (bif ls.getD 3 false then .pointer (some ⟨F, 1, none⟩) else u25), (bif ls.getD 4 false then .slice (some ⟨g, 0, none⟩) zs.length c2 else u26), (bif ls.getD 5 false then .int .i64 (j : Int) else u27), (bif ls.getD 6 false then .pointer (some ⟨g, j, none⟩) else u28), (bif ls.getD 7 false then .int .i64 z else u29), (bif ls.getD 8 false then .pointer (some ⟨w.heap.size + 1, 0, none⟩) else u30), (bif ls.getD 9 false then .pointer (some ⟨F, 0, none⟩) else u31), (bif ls.getD 10 false then .int .i64 m else u32), (bif ls.getD 11 false then .int .i64 (m - 1) else u33), (bif ls.getD 12 false then .int .i64 (N : Int) else u34), (bif ls.getD 13 false then .int .i64 e35 else u35), (bif ls.getD 14 false then .int .i64 e36 else u36), (bif ls.getD 15 false then .pointer (some ⟨F, 0, none⟩) else u37), (bif ls.getD 16 false then .int .i64 m else u38), (bif ls.getD 17 false then .int .i64 (m - 1) else u39), (bif ls.getD 18 false then .int .i64 e40 else u40), (bif ls.getD 19 false then .int .i64 e41 else u41), (bif ls.getD 20 false then .pointer (some ⟨g, j, none⟩) else u42), undef], defers := [] } ∧ ClRel W0 w.heap.size F g j m (zs.length : Nat) c2 ys a k cap N e41 (ls.getD 12 false) (ls.getD 21 false) ((ls.toList.take 21).all id) W'') hmx (by kernel_rfl) ⟨0, 0, 0, 0, 0, rfl, ⟨fun _ => HSd.out, (fun h => by cases h), (fun h => by cases h)⟩⟩ ?step ?fin
      case step =>
        intro listed a' W'' i hsz hi hS
        obtain ⟨l0, l1, l2, l3, l4, l5, l6, l7, l8, l9, l10, l11, l12, l13, l14, l15, l16, l17, l18, l19, l20, l21, rfl⟩ := arr22 listed hsz
        obtain ⟨hi1, hi2⟩ := List.mem_filter.1 hi
        have hi8 : i < 22 := by simpa using hi1
        obtain ⟨N, e35, e36, e40, e41, rfl, ⟨R1, R2, R3⟩⟩ := hS
        change l21 = false → OwnI W'' (w.heap.size + 2) (.slice (some ⟨g, 0, none⟩) zs.length c2) ys ∧ HasBlk W'' w.heap.size #[.int .i64 0, .slice none 0 0] 25 ∧ HasBlk W'' F #[.int .i64 m, .slice (some ⟨g, 0, none⟩) zs.length c2] 25 ∧ DS W0 (w.heap.size + 1) a k cap (bif l12 then 201 + j else 200 + j) W'' at R1
        change l21 = true → _ at R2
        change l12 = true → N < 64 at R3
        have HR2 := Lib.hid R2
        have HR3 := Lib.hid R3
        clear hi hi1 hsz R2 R3
        have hcase : i = 0 ∨ i = 1 ∨ i = 2 ∨ i = 3 ∨ i = 4 ∨ i = 5 ∨ i = 6 ∨ i = 7 ∨ i = 8 ∨ i = 9 ∨ i = 10 ∨ i = 11 ∨ i = 12 ∨ i = 13 ∨ i = 14 ∨ i = 15 ∨ i = 16 ∨ i = 17 ∨ i = 18 ∨ i = 19 ∨ i = 20 ∨ i = 21 := by omega
        rcases hcase with rfl | rfl | rfl | rfl | rfl | rfl | rfl | rfl | rfl | rfl | rfl | rfl | rfl | rfl | rfl | rfl | rfl | rfl | rfl | rfl | rfl | rfl
        · have gs : l0 = false := by simp [Region.binds] at hi2; simp_all
          have g21 : l21 = false := by cases h : l21 <;> first | rfl | (have h9 := (HR2.out h).1; simp at h9; simp_all)
          subst gs
          subst g21
          clear hi2
          have HR1 := Lib.hid (R1 rfl)
          clear R1
          refine wpOp_of_list rfl ?_
          go_wp2
          exact ⟨N, e35, e36, e40, e41, rfl, ⟨fun _ => HR1.out, (fun h => by cases h), (by first | exact HR3.out | exact fun _ => HR3.out trivial)⟩⟩
        · have g0 : l0 = true := by simp [Region.binds] at hi2; simp_all
          have gs : l1 = false := by simp [Region.binds] at hi2; simp_all
          have g21 : l21 = false := by cases h : l21 <;> first | rfl | (have h9 := (HR2.out h).1; simp at h9; simp_all)
          subst g0
          subst gs
          subst g21
          clear hi2
          have HR1 := Lib.hid (R1 rfl)
          clear R1
          have d0 := (blk_cell HR1.out.2.2.1 0).trans (cell2_0 _ _)
          have d1 := (blk_cell HR1.out.2.2.1 1).trans (cell2_1 _ _)
          refine wpOp_of_list rfl ?_
          go_wp2
          exact ⟨N, e35, e36, e40, e41, rfl, ⟨fun _ => HR1.out, (fun h => by cases h), (by first | exact HR3.out | exact fun _ => HR3.out trivial)⟩⟩
        · have gs : l2 = false := by simp [Region.binds] at hi2; simp_all
          have g21 : l21 = false := by cases h : l21 <;> first | rfl | (have h9 := (HR2.out h).1; simp at h9; simp_all)
          subst gs
          subst g21
          clear hi2
          have HR1 := Lib.hid (R1 rfl)
          clear R1
          refine wpOp_of_list rfl ?_
          go_wp2
          exact ⟨N, e35, e36, e40, e41, rfl, ⟨fun _ => HR1.out, (fun h => by cases h), (by first | exact HR3.out | exact fun _ => HR3.out trivial)⟩⟩
        · have gs : l3 = false := by simp [Region.binds] at hi2; simp_all
          have g21 : l21 = false := by cases h : l21 <;> first | rfl | (have h9 := (HR2.out h).1; simp at h9; simp_all)
          subst gs
          subst g21
          clear hi2
          have HR1 := Lib.hid (R1 rfl)
          clear R1
          refine wpOp_of_list rfl ?_
          go_wp2
          exact ⟨N, e35, e36, e40, e41, rfl, ⟨fun _ => HR1.out, (fun h => by cases h), (by first | exact HR3.out | exact fun _ => HR3.out trivial)⟩⟩
        · have g3 : l3 = true := by simp [Region.binds] at hi2; simp_all
          have gs : l4 = false := by simp [Region.binds] at hi2; simp_all
          have g21 : l21 = false := by cases h : l21 <;> first | rfl | (have h9 := (HR2.out h).1; simp at h9; simp_all)
          subst g3
          subst gs
          subst g21
          clear hi2
          have HR1 := Lib.hid (R1 rfl)
          clear R1
          have d0 := (blk_cell HR1.out.2.2.1 0).trans (cell2_0 _ _)
          have d1 := (blk_cell HR1.out.2.2.1 1).trans (cell2_1 _ _)
          refine wpOp_of_list rfl ?_
          go_wp2
          exact ⟨N, e35, e36, e40, e41, rfl, ⟨fun _ => HR1.out, (fun h => by cases h), (by first | exact HR3.out | exact fun _ => HR3.out trivial)⟩⟩
        · have gs : l5 = false := by simp [Region.binds] at hi2; simp_all
          have g21 : l21 = false := by cases h : l21 <;> first | rfl | (have h9 := (HR2.out h).1; simp at h9; simp_all)
          subst gs
          subst g21
          clear hi2
          have HR1 := Lib.hid (R1 rfl)
          clear R1
          refine wpOp_of_list rfl ?_
          go_wp2
          exact ⟨N, e35, e36, e40, e41, rfl, ⟨fun _ => HR1.out, (fun h => by cases h), (by first | exact HR3.out | exact fun _ => HR3.out trivial)⟩⟩
        · have g4 : l4 = true := by simp [Region.binds] at hi2; simp_all
          have g5 : l5 = true := by simp [Region.binds] at hi2; simp_all
          have gs : l6 = false := by simp [Region.binds] at hi2; simp_all
          have g21 : l21 = false := by cases h : l21 <;> first | rfl | (have h9 := (HR2.out h).1; simp at h9; simp_all)
          subst g4
          subst g5
          subst gs
          subst g21
          clear hi2
          have HR1 := Lib.hid (R1 rfl)
          clear R1
          refine wpOp_of_list rfl ?_
          go_wp2
          exact ⟨N, e35, e36, e40, e41, rfl, ⟨fun _ => HR1.out, (fun h => by cases h), (by first | exact HR3.out | exact fun _ => HR3.out trivial)⟩⟩
        · have g6 : l6 = true := by simp [Region.binds] at hi2; simp_all
          have gs : l7 = false := by simp [Region.binds] at hi2; simp_all
          have g21 : l21 = false := by cases h : l21 <;> first | rfl | (have h9 := (HR2.out h).1; simp at h9; simp_all)
          subst g6
          subst gs
          subst g21
          clear hi2
          have HR1 := Lib.hid (R1 rfl)
          clear R1
          obtain ⟨g', he', hbg', hgl', hcl, hfl, hsl⟩ := own_wr HR1.out.1 (k := j) (by rw [HY.out]; omega)
          injection he' with he'
          injection he' with he'
          subst he'
          rw [← HZ.out] at hcl
          have HSL := Lib.hid hsl
          clear hsl
          refine wpOp_of_list rfl ?_
          go_wp2
          exact ⟨N, e35, e36, e40, e41, rfl, ⟨fun _ => HR1.out, (fun h => by cases h), (by first | exact HR3.out | exact fun _ => HR3.out trivial)⟩⟩
        · have gs : l8 = false := by simp [Region.binds] at hi2; simp_all
          have g21 : l21 = false := by cases h : l21 <;> first | rfl | (have h9 := (HR2.out h).1; simp at h9; simp_all)
          subst gs
          subst g21
          clear hi2
          have HR1 := Lib.hid (R1 rfl)
          clear R1
          refine wpOp_of_list rfl ?_
          go_wp2
          exact ⟨N, e35, e36, e40, e41, rfl, ⟨fun _ => HR1.out, (fun h => by cases h), (by first | exact HR3.out | exact fun _ => HR3.out trivial)⟩⟩
        · have gs : l9 = false := by simp [Region.binds] at hi2; simp_all
          have g21 : l21 = false := by cases h : l21 <;> first | rfl | (have h9 := (HR2.out h).1; simp at h9; simp_all)
          subst gs
          subst g21
          clear hi2
          have HR1 := Lib.hid (R1 rfl)
          clear R1
          refine wpOp_of_list rfl ?_
          go_wp2
          exact ⟨N, e35, e36, e40, e41, rfl, ⟨fun _ => HR1.out, (fun h => by cases h), (by first | exact HR3.out | exact fun _ => HR3.out trivial)⟩⟩
        · have g9 : l9 = true := by simp [Region.binds] at hi2; simp_all
          have gs : l10 = false := by simp [Region.binds] at hi2; simp_all
          have g21 : l21 = false := by cases h : l21 <;> first | rfl | (have h9 := (HR2.out h).1; simp at h9; simp_all)
          subst g9
          subst gs
          subst g21
          clear hi2
          have HR1 := Lib.hid (R1 rfl)
          clear R1
          have d0 := (blk_cell HR1.out.2.2.1 0).trans (cell2_0 _ _)
          have d1 := (blk_cell HR1.out.2.2.1 1).trans (cell2_1 _ _)
          refine wpOp_of_list rfl ?_
          go_wp2
          exact ⟨N, e35, e36, e40, e41, rfl, ⟨fun _ => HR1.out, (fun h => by cases h), (by first | exact HR3.out | exact fun _ => HR3.out trivial)⟩⟩
        · have g10 : l10 = true := by simp [Region.binds] at hi2; simp_all
          have gs : l11 = false := by simp [Region.binds] at hi2; simp_all
          have g21 : l21 = false := by cases h : l21 <;> first | rfl | (have h9 := (HR2.out h).1; simp at h9; simp_all)
          subst g10
          subst gs
          subst g21
          clear hi2
          have HR1 := Lib.hid (R1 rfl)
          clear R1
          refine wpOp_of_list rfl ?_
          go_wp2
          exact ⟨N, e35, e36, e40, e41, rfl, ⟨fun _ => HR1.out, (fun h => by cases h), (by first | exact HR3.out | exact fun _ => HR3.out trivial)⟩⟩
        · have g8 : l8 = true := by simp [Region.binds] at hi2; simp_all
          have g11 : l11 = true := by simp [Region.binds] at hi2; simp_all
          have gs : l12 = false := by simp [Region.binds] at hi2; simp_all
          have g21 : l21 = false := by cases h : l21 <;> first | rfl | (have h9 := (HR2.out h).1; simp at h9; simp_all)
          subst g8
          subst g11
          subst gs
          subst g21
          clear hi2
          have HR1 := Lib.hid (R1 rfl)
          clear R1
          refine wpOp_of_list rfl ?_
          go_wp2_with (go_at_call 68; refine (pickX HR1.out.2.2.2 HB1.out hR hkn (by show 200 + j ≤ 1000000; omega) _).mono ?_; rintro e wl ⟨rl, rfl, hl', Dl, gl⟩; have HPK := Lib.hid (show _ ∧ _ ∧ _ from ⟨hl', Dl, gl⟩); clear hl' Dl gl)
          exact ⟨rl, e35, e36, e40, e41, rfl, ⟨fun _ => ⟨own_grown HR1.out.1 HPK.out.2.2 (by omega), HR1.out.2.1.kept HPK.out.2.2 (fun e => by injection e; omega), blk_grown HR1.out.2.2.1 HPK.out.2.2 (by omega), HPK.out.2.1.mono (by first | (simp; done) | (simp; omega) | (show 200 + j + 1 ≤ 201 + j; omega) | omega)⟩, (fun h => by cases h), fun _ => by have := HPK.out.1 (by omega); omega⟩⟩
        · have g12 : l12 = true := by simp [Region.binds] at hi2; simp_all
          have gs : l13 = false := by simp [Region.binds] at hi2; simp_all
          have g21 : l21 = false := by cases h : l21 <;> first | rfl | (have h9 := (HR2.out h).1; simp at h9; simp_all)
          subst g12
          subst gs
          subst g21
          clear hi2
          have HR1 := Lib.hid (R1 rfl)
          clear R1
          have hN64 : (N : Int) < 64 := by have := HR3.out (by trivial); omega
          refine wpOp_of_list rfl ?_
          go_wp2
          exact ⟨N, _, e36, e40, e41, rfl, ⟨fun _ => HR1.out, (fun h => by cases h), (by first | exact HR3.out | exact fun _ => HR3.out trivial)⟩⟩
        · have g7 : l7 = true := by simp [Region.binds] at hi2; simp_all
          have g13 : l13 = true := by simp [Region.binds] at hi2; simp_all
          have gs : l14 = false := by simp [Region.binds] at hi2; simp_all
          have g21 : l21 = false := by cases h : l21 <;> first | rfl | (have h9 := (HR2.out h).1; simp at h9; simp_all)
          subst g7
          subst g13
          subst gs
          subst g21
          clear hi2
          have HR1 := Lib.hid (R1 rfl)
          clear R1
          refine wpOp_of_list rfl ?_
          go_wp2
          exact ⟨N, e35, _, e40, e41, rfl, ⟨fun _ => HR1.out, (fun h => by cases h), (by first | exact HR3.out | exact fun _ => HR3.out trivial)⟩⟩
        · have gs : l15 = false := by simp [Region.binds] at hi2; simp_all
          have g21 : l21 = false := by cases h : l21 <;> first | rfl | (have h9 := (HR2.out h).1; simp at h9; simp_all)
          subst gs
          subst g21
          clear hi2
          have HR1 := Lib.hid (R1 rfl)
          clear R1
          refine wpOp_of_list rfl ?_
          go_wp2
          exact ⟨N, e35, e36, e40, e41, rfl, ⟨fun _ => HR1.out, (fun h => by cases h), (by first | exact HR3.out | exact fun _ => HR3.out trivial)⟩⟩
        · have g15 : l15 = true := by simp [Region.binds] at hi2; simp_all
          have gs : l16 = false := by simp [Region.binds] at hi2; simp_all
          have g21 : l21 = false := by cases h : l21 <;> first | rfl | (have h9 := (HR2.out h).1; simp at h9; simp_all)
          subst g15
          subst gs
          subst g21
          clear hi2
          have HR1 := Lib.hid (R1 rfl)
          clear R1
          have d0 := (blk_cell HR1.out.2.2.1 0).trans (cell2_0 _ _)
          have d1 := (blk_cell HR1.out.2.2.1 1).trans (cell2_1 _ _)
          refine wpOp_of_list rfl ?_
          go_wp2
          exact ⟨N, e35, e36, e40, e41, rfl, ⟨fun _ => HR1.out, (fun h => by cases h), (by first | exact HR3.out | exact fun _ => HR3.out trivial)⟩⟩
        · have g16 : l16 = true := by simp [Region.binds] at hi2; simp_all
          have gs : l17 = false := by simp [Region.binds] at hi2; simp_all
          have g21 : l21 = false := by cases h : l21 <;> first | rfl | (have h9 := (HR2.out h).1; simp at h9; simp_all)
          subst g16
          subst gs
          subst g21
          clear hi2
          have HR1 := Lib.hid (R1 rfl)
          clear R1
          refine wpOp_of_list rfl ?_
          go_wp2
          exact ⟨N, e35, e36, e40, e41, rfl, ⟨fun _ => HR1.out, (fun h => by cases h), (by first | exact HR3.out | exact fun _ => HR3.out trivial)⟩⟩
        · have g17 : l17 = true := by simp [Region.binds] at hi2; simp_all
          have gs : l18 = false := by simp [Region.binds] at hi2; simp_all
          have g21 : l21 = false := by cases h : l21 <;> first | rfl | (have h9 := (HR2.out h).1; simp at h9; simp_all)
          subst g17
          subst gs
          subst g21
          clear hi2
          have HR1 := Lib.hid (R1 rfl)
          clear R1
          refine wpOp_of_list rfl ?_
          go_wp2
          exact ⟨N, e35, e36, _, e41, rfl, ⟨fun _ => HR1.out, (fun h => by cases h), (by first | exact HR3.out | exact fun _ => HR3.out trivial)⟩⟩
        · have g14 : l14 = true := by simp [Region.binds] at hi2; simp_all
          have g18 : l18 = true := by simp [Region.binds] at hi2; simp_all
          have gs : l19 = false := by simp [Region.binds] at hi2; simp_all
          have g21 : l21 = false := by cases h : l21 <;> first | rfl | (have h9 := (HR2.out h).1; simp at h9; simp_all)
          subst g14
          subst g18
          subst gs
          subst g21
          clear hi2
          have HR1 := Lib.hid (R1 rfl)
          clear R1
          refine wpOp_of_list rfl ?_
          go_wp2
          exact ⟨N, e35, e36, e40, _, rfl, ⟨fun _ => HR1.out, (fun h => by cases h), (by first | exact HR3.out | exact fun _ => HR3.out trivial)⟩⟩
        · have g1 : l1 = true := by simp [Region.binds] at hi2; simp_all
          have g2 : l2 = true := by simp [Region.binds] at hi2; simp_all
          have gs : l20 = false := by simp [Region.binds] at hi2; simp_all
          have g21 : l21 = false := by cases h : l21 <;> first | rfl | (have h9 := (HR2.out h).1; simp at h9; simp_all)
          subst g1
          subst g2
          subst gs
          subst g21
          clear hi2
          have HR1 := Lib.hid (R1 rfl)
          clear R1
          refine wpOp_of_list rfl ?_
          go_wp2
          exact ⟨N, e35, e36, e40, e41, rfl, ⟨fun _ => HR1.out, (fun h => by cases h), (by first | exact HR3.out | exact fun _ => HR3.out trivial)⟩⟩
        · have g0 : l0 = true := by simp [Region.binds] at hi2; simp_all
          have g1 : l1 = true := by simp [Region.binds] at hi2; simp_all
          have g2 : l2 = true := by simp [Region.binds] at hi2; simp_all
          have g3 : l3 = true := by simp [Region.binds] at hi2; simp_all
          have g4 : l4 = true := by simp [Region.binds] at hi2; simp_all
          have g5 : l5 = true := by simp [Region.binds] at hi2; simp_all
          have g6 : l6 = true := by simp [Region.binds] at hi2; simp_all
          have g7 : l7 = true := by simp [Region.binds] at hi2; simp_all
          have g8 : l8 = true := by simp [Region.binds] at hi2; simp_all
          have g9 : l9 = true := by simp [Region.binds] at hi2; simp_all
          have g10 : l10 = true := by simp [Region.binds] at hi2; simp_all
          have g11 : l11 = true := by simp [Region.binds] at hi2; simp_all
          have g12 : l12 = true := by simp [Region.binds] at hi2; simp_all
          have g13 : l13 = true := by simp [Region.binds] at hi2; simp_all
          have g14 : l14 = true := by simp [Region.binds] at hi2; simp_all
          have g15 : l15 = true := by simp [Region.binds] at hi2; simp_all
          have g16 : l16 = true := by simp [Region.binds] at hi2; simp_all
          have g17 : l17 = true := by simp [Region.binds] at hi2; simp_all
          have g18 : l18 = true := by simp [Region.binds] at hi2; simp_all
          have g19 : l19 = true := by simp [Region.binds] at hi2; simp_all
          have g20 : l20 = true := by simp [Region.binds] at hi2; simp_all
          have gs : l21 = false := by simp [Region.binds] at hi2; simp_all
          subst g0
          subst g1
          subst g2
          subst g3
          subst g4
          subst g5
          subst g6
          subst g7
          subst g8
          subst g9
          subst g10
          subst g11
          subst g12
          subst g13
          subst g14
          subst g15
          subst g16
          subst g17
          subst g18
          subst g19
          subst g20
          subst gs
          clear hi2
          have HR1 := Lib.hid (R1 rfl)
          clear R1
          obtain ⟨g', he', hbg', hgl', hcl, hfl, hsl⟩ := own_wr HR1.out.1 (k := j) (by rw [HY.out]; omega)
          injection he' with he'
          injection he' with he'
          subst he'
          rw [← HZ.out] at hcl
          have HSL := Lib.hid hsl
          clear hsl
          refine wpOp_of_list rfl ?_
          go_wp2
          exact ⟨N, e35, e36, e40, e41, rfl, ⟨(fun h => by cases h), (fun _ => ⟨rfl, HSL.out _, HR1.out.2.1.far (p := ⟨g, j, none⟩) (show w.heap.size ≠ g by omega) _, HR1.out.2.2.1.far (p := ⟨g, j, none⟩) (show F ≠ g by omega) _, (HR1.out.2.2.2.step (only_setCell (p := ⟨g, j, none⟩) (World.grownBy.refl _ (some g)) rfl _) (fun g e => by injection e; omega) hR).mono (by first | (simp; done) | (simp; omega) | omega)⟩), (by first | exact HR3.out | exact fun _ => HR3.out trivial)⟩⟩
      case fin =>
        intro listed a' W'' hsz hall hS
        obtain ⟨l0, l1, l2, l3, l4, l5, l6, l7, l8, l9, l10, l11, l12, l13, l14, l15, l16, l17, l18, l19, l20, l21, rfl⟩ := arr22 listed hsz
        simp at hall
        obtain ⟨rfl, rfl, rfl, rfl, rfl, rfl, rfl, rfl, rfl, rfl, rfl, rfl, rfl, rfl, rfl, rfl, rfl, rfl, rfl, rfl, rfl, rfl⟩ := hall
        obtain ⟨N, e35, e36, e40, e41, rfl, ⟨-, R2, -⟩⟩ := hS
        have HR2 := Lib.hid (R2 rfl).2
        clear R2 hsz
        go_wp2
        go_roundw
        case rel => exact ⟨j + 1, ys.set j e41, by omega, by go_num, by rw [List.length_set]; exact HY.out, Lib.hid ⟨HR2.out.1, HR2.out.2.1, HR2.out.2.2.1, HR2.out.2.2.2.mono (by omega)⟩⟩
        case measure => simp [intOf]; omega
    · have e0 := (blk_cell HS.out.2.1 0).trans (cell2_0 _ _)
      have e1 := (blk_cell HS.out.2.1 1).trans (cell2_1 _ _)
      have f0 := blk_frozen HS.out.2.1 0
      have f1 := blk_frozen HS.out.2.1 1
      have HOy : OwnI wr (w.heap.size + 2) (.slice a2 ys.length c2) ys := by rw [HY.out]; exact HS.out.1
      have HBr := Lib.hid (HBL.out.trans (HS.out.2.2.2.belowR (B := w.heap.size) (by omega) (by omega)))
      have HRET : Hid (DrawnOne w (.returned (.agg #[.int .i64 m, .slice a2 zs.length c2])) ((wr.setCell ⟨w.heap.size, 0, none⟩ (.int .i64 m)).setCell ⟨w.heap.size, 1, none⟩ (.slice a2 zs.length c2))) := Lib.hid ⟨m, a2, ys, c2, by rw [HY.out], by have := HY.out; omega, own_mono (ownsRow_setCell_below (ownsRow_setCell_below HOy (a := ⟨w.heap.size, 0, none⟩) (show w.heap.size < w.heap.size + 2 by omega) _) (a := ⟨w.heap.size, 1, none⟩) (show w.heap.size < w.heap.size + 2 by omega) _) (by omega), (HBr.out.setCell (p := ⟨w.heap.size, 0, none⟩) (Nat.le_refl _) _).setCell (p := ⟨w.heap.size, 1, none⟩) (Nat.le_refl _) _⟩
      by_cases h1 : (j : Int) < (zs.length : Int)
      · have h2 : ¬ 1 < m := fun h => hgo ⟨h1, h⟩
        clear hgo
        go_wp2
        refine bodyPost_ret (v := .agg #[.int .i64 m, .slice a2 zs.length c2]) (by simp [results, Tryd.results26, go_sem, e0, e1]) rfl ?_
        exact HRET.out
      · clear hgo
        go_wp2
        refine bodyPost_ret (v := .agg #[.int .i64 m, .slice a2 zs.length c2]) (by simp [results, Tryd.results26, go_sem, e0, e1]) rfl ?_
        exact HRET.out

end Go.Proofs.YtacglafoahmcnaaDoor

/- It is proved whether some club has colours that are not proper; conditions: those of each statement. -/
namespace Go.Proofs.YtacglafoahmcnaaDoor
open Go.RowKit Go.Shelf

attribute [local go_sem] Oper.semAt_some

theorem mem8 {z : Nat} (h : z < 64) : memK 8 z = mem z := memW_is (k := 6) (by omega) (by omega)
end Go.Proofs.YtacglafoahmcnaaDoor

/- It is proved what the method and of a naming returns; conditions: those of each statement. -/
namespace Go.Proofs.YtacglafoahmcnaaDoor
open Go.RowKit Go.Shelf

/-- Numbers as cells. -/
def iv (xs : List Int) : Array Value := (xs.map (Value.int .i64)).toArray

theorem iv_at (xs : List Int) (i : Nat) (h : i < xs.length) : (iv xs)[i]? = some (.int .i64 (xs[i]?.getD 0)) := by simp [iv, h]
/-- Block b holds just these numbers. -/
def Nums (W : World) (b : Nat) (t : TypeId) (xs : List Int) : Prop := HasBlk W b (iv xs) t

theorem Nums.cell {W : World} {b : Nat} {t : TypeId} {xs : List Int} (h : Nums W b t xs) (i : Nat) (hi : i < xs.length) : W.cell? ⟨b, i, none⟩ = some (.int .i64 (xs[i]?.getD 0)) := (blk_cell h i).trans (iv_at xs i hi)
theorem Nums.frozen {W : World} {b : Nat} {t : TypeId} {xs : List Int} (h : Nums W b t xs) (i : Nat) : W.frozen? ⟨b, i, none⟩ = false := blk_frozen h i
theorem Nums.lt {W : World} {b : Nat} {t : TypeId} {xs : List Int} (h : Nums W b t xs) : b < W.heap.size := lt_of_some h
theorem Nums.alloc {W : World} {b : Nat} {t : TypeId} {xs : List Int} (h : Nums W b t xs) (o : Obj) : Nums (W.alloc o) b t xs := HasBlk.alloc h o
theorem Nums.kept {W W' : World} {b : Nat} {t : TypeId} {xs : List Int} {row : Option Nat} (h : Nums W b t xs) (hg : W.grownBy W' row) (hr : row ≠ some b) : Nums W' b t xs := HasBlk.kept h hg hr
theorem Nums.below {W W' : World} {b B : Nat} {t : TypeId} {xs : List Int} (h : Nums W b t xs) (hb : Below B W W') (hB : b < B) : Nums W' b t xs := (hb.block b hB).trans h
theorem Nums.far {W : World} {b : Nat} {t : TypeId} {xs : List Int} (h : Nums W b t xs) {p : Addr} (hp : b ≠ p.block) (u : Value) : Nums (W.setCell p u) b t xs := HasBlk.far h hp u
theorem Nums.set {W : World} {b : Nat} {t : TypeId} {xs : List Int} (h : Nums W b t xs) (i : Nat) (x : Int) : Nums (W.setCell ⟨b, i, none⟩ (.int .i64 x)) b t (xs.set i x) := by
  have := heap_setCell_same W b i (iv xs) t (.int .i64 x) h
  unfold Nums HasBlk
  rw [this]
  simp [iv, List.map_set]

theorem Nums.row {W : World} {b : Nat} {t : TypeId} {xs : List Int} (h : Nums W b t xs) (ys : List Int) : Nums (W.setRow b ((ys.map (Value.int .i64)).toArray)) b t ys := setRow_heap W b (iv xs) _ t _ h
end Go.Proofs.YtacglafoahmcnaaDoor
