/- It is proved that the call of the law FnClose returns true; conditions: those of each statement. -/
import Derived.RowKit
import Derived.Laws.CopyRow
import Derived.Lib.SlBuf
import Derived.Deep.QuietTactic
import Derived.RangeFuncNested
import Derived.RangeFuncBound
import Derived.RangeFuncCalls
import Derived.RangeFuncLeaves
import Derived.RangeFuncBox
import Derived.RangeFuncWrites
import Derived.StillTailTactics
import Derived.Maps.OwnIn
import Derived.Maps.Ext
import Derived.DeepKeys4
import Derived.MapKept
import Derived.Test.YtckbhhaigpajpaaRows
import Derived.WalkKit
import Derived.WalkSpells
import Derived.ProofKit
import Derived.OpenShut
import Derived.ShutString
import Derived.ChangeOld
import Derived.Below
import Derived.Deep.RegionHeld3
import Derived.BigQuiet
import Derived.Lib.Hide
import Derived.Lib.SmallJoins
import Derived.Outline
import Derived.Laws.MakeOwn
import Derived.Laws.OwnMore
import Derived.IntWalk
import Derived.Maps.AppendAt
import Derived.Deep.RegionLaw
import Derived.Deep.AppendLies
import Derived.Lib.AppendZeros
import Derived.OwnWalk
import Derived.Lib.SlicesCompact
import Derived.Lib.OwnBridge
import Derived.OrdersIn
import Derived.TacticsIn
import Derived.Orders
import Derived.Tactics
import Derived.Shelf.Sort.Plain
import Derived.Shelf.Slices.In.SortNone
import Derived.Shelf.Slices.CompactI
import Derived.Ground.Names2Prog
import Derived.Lib.SliceRun
import Derived.Laws.BitsAllLaws
import Derived.Shelf.RegionOpen
import Derived.Shelf.Abstract
import Derived.OwnWalkIn
import Derived.TacticsInMore
import Derived.LoopNIn
import Derived.LoopIn
import Derived.StillTail
import Derived.StillTactics
import Derived.Shelf.Spec.TrailingZeros
import Derived.Deep.LoopGhost
import Derived.Test.YtckbhhaigpajpaaRaaa
import Derived.Test.YtckbhhaigpajpaaRaab
import Derived.Test.YtckbhhaigpajpaaDa
import Derived.Test.YtckbhhaigpajpaaDb
import Derived.Test.YtckbhhaigpajpaaDd
import Derived.Test.YtckbhhaigpajpaaDe
import Derived.Test.YtckbhhaigpajpaaRaad
import Derived.Test.YtckbhhaigpajpaaRaae
import Derived.Test.YtckbhhaigpajpaaRaah
import Derived.Test.YtckbhhaigpajpaaRaam
import Derived.Test.YtckbhhaigpajpaaRaao
import Derived.Test.YtckbhhaigpajpaaRaaj
import Derived.Test.YtckbhhaigpajpaaR
import Derived.Test.YtckbhhaigpajpaaXm
import Derived.Test.YtckbhhaigpajpaaRaal
import Derived.Test.YtckbhhaigpajpaaXp
import Derived.Test.YtckbhhaigpajpaaXr
import Derived.Test.YtckbhhaigpajpaaXs
import Derived.Test.YtckbhhaigpajpaaYd
namespace Go.Proofs.Ytckbhhaigpajpaa
open Go.RowKit

set_option maxRecDepth 100000 in
set_option maxHeartbeats 8000000 in
theorem walkFnClose (a : Option Addr) (n cap : Nat) (w : World) (hb : Bys w w.heap.size a n) (hn : n ≤ 1048576) (hc : n ≤ cap) (hc2 : cap ≤ 9223372036854775807) :
    Calls Try.prog 3 #[.slice a n cap] w fun e w' => e = .returned (.bool true) ∧ Below w.heap.size w w' := by
  have HBy := Lib.hid hb
  clear hb
  go_enter Try.func3, Try.ntmps3
  go_wp2_with fail
  refine (drawMeetClose_any a n cap w HBy.out hn hc hc2).mono ?_
  rintro e w1 ⟨m, a1, zs, c1, rfl, hl, ho1, hb1⟩
  have F1 := FB.start (m := m) (c := c1) (own_ints ho1)
  have B1 := Lib.hid (hb1.trans ((below1 w1 (.cells #[.int .i64 m, .slice a1 zs.length c1] 25)).mono hb1.size))
  have hln : zs.length ≤ 1048576 := by omega
  have f_f_1 := Lib.hid F1
  clear F1 ho1 hb1
  have f_0 := f_f_1.out.x0
  have f_1 := f_f_1.out.x1
  obtain ⟨M, hM⟩ : ∃ M, M = cloM m zs := ⟨_, rfl⟩
  obtain ⟨ys, hys⟩ : ∃ ys, ys = cloZ m zs := ⟨_, rfl⟩
  have hyl : ys.length ≤ 1048576 := by rw [hys]; exact cloZ_len m zs
  have HI := Lib.hid (fun W hz => implMeetClose_any m a1 c1 zs W hz hln)
  have HSp := Lib.hid (fun W hz => specMeetClose_any m a1 c1 zs W hz hln)
  rw [← hM, ← hys] at HI HSp
  have HM := Lib.hid hM
  have HYS := Lib.hid hys
  clear hM hys
  go_wp2_with fail
  refine (HI.out _ f_f_1.out.ints).mono ?_
  rintro e w2 ⟨a2, c2, rfl, ho2, hb2⟩
  have F2 := FB.start (m := M) (c := c2) (own_ints ho2)
  have hb2x := hb2.trans ((below1 w2 (.cells #[.int .i64 (M), .slice a2 (ys).length c2] 25)).mono hb2.size)
  have B2 := Lib.hid (B1.out.trans (hb2x.mono B1.out.size))
  have f_f_2 := Lib.hid (f_f_1.out.step hb2x)
  have f_out_2 := Lib.hid F2
  clear F2 ho2 hb2 hb2x B1 f_f_1
  clear f_0 f_1
  have f_0 := f_f_2.out.x0
  have f_1 := f_f_2.out.x1
  go_wp2_with fail
  refine (HSp.out _ f_f_2.out.ints).mono ?_
  rintro e w3 ⟨a3, c3, rfl, ho3, hb3⟩
  have F3 := FB.start (m := M) (c := c3) (own_ints ho3)
  have hb3x := hb3.trans ((below1 w3 (.cells #[.int .i64 (M), .slice a3 (ys).length c3] 25)).mono hb3.size)
  have B3 := Lib.hid (B2.out.trans (hb3x.mono B2.out.size))
  have f_f_3 := Lib.hid (f_f_2.out.step hb3x)
  have f_out_3 := Lib.hid (f_out_2.out.step hb3x)
  have f_want_3 := Lib.hid F3
  clear F3 ho3 hb3 hb3x B2 f_f_2 f_out_2
  clear f_0 f_1
  have out_0 := f_out_3.out.x0
  have out_1 := f_out_3.out.x1
  have want_0 := f_want_3.out.x0
  have want_1 := f_want_3.out.x1
  clear HI HSp
  cases hd : cloB m zs
  · clear hd HM HYS
    go_wp2_with fail
    refine (sameFamily_any _ _ _ _ _ _ _ _ _ f_out_3.out.ints f_want_3.out.ints hyl hyl).mono ?_
    rintro e w4 ⟨rfl, hb4⟩
    rw [sameF_self]
    have B4 := Lib.hid (B3.out.trans (hb4.mono B3.out.size))
    have f_f_4 := Lib.hid (f_f_3.out.step hb4)
    have f_out_4 := Lib.hid (f_out_3.out.step hb4)
    have f_want_4 := Lib.hid (f_want_3.out.step hb4)
    clear hb4 B3 f_f_3 f_out_3 f_want_3
    clear want_0 want_1
    clear out_0 out_1
    have out_0 := f_out_4.out.x0
    have out_1 := f_out_4.out.x1
    have want_0 := f_want_4.out.x0
    have want_1 := f_want_4.out.x1
    go_wp2_with fail
    refine (sameFamily_any _ _ _ _ _ _ _ _ _ f_out_4.out.ints f_want_4.out.ints hyl hyl).mono ?_
    rintro e w5 ⟨rfl, hb5⟩
    rw [sameF_self]
    have B5 := Lib.hid (B4.out.trans (hb5.mono B4.out.size))
    have f_f_5 := Lib.hid (f_f_4.out.step hb5)
    have f_out_5 := Lib.hid (f_out_4.out.step hb5)
    have f_want_5 := Lib.hid (f_want_4.out.step hb5)
    clear hb5 B4 f_f_4 f_out_4 f_want_4
    clear want_0 want_1
    clear out_0 out_1
    go_wp2
    go_ret
    exact ⟨rfl, B5.out⟩
  · have HD := Lib.hid hd
    clear hd
    go_wp2_with fail
    refine (sameFamily_any _ _ _ _ _ _ _ _ _ f_out_3.out.ints f_want_3.out.ints hyl hyl).mono ?_
    rintro e w4 ⟨rfl, hb4⟩
    rw [sameF_self]
    have B4 := Lib.hid (B3.out.trans (hb4.mono B3.out.size))
    have f_f_4 := Lib.hid (f_f_3.out.step hb4)
    have f_out_4 := Lib.hid (f_out_3.out.step hb4)
    have f_want_4 := Lib.hid (f_want_3.out.step hb4)
    clear hb4 B3 f_f_3 f_out_3 f_want_3
    clear want_0 want_1
    clear out_0 out_1
    clear f_want_4
    obtain ⟨hfm, hcl8⟩ : famIn m zs = true ∧ (clTo zs zs.length).length ≤ 8 := by
      have h := HD.out
      unfold cloB at h
      rw [Bool.and_eq_true, decide_eq_true_eq] at h
      exact h
    obtain ⟨k, hmk, hk1, hk6, hset, hl8⟩ := fam_nat2 hfm
    have hMe : M = (k : Int) := by rw [HM.out]; unfold cloM; rw [HD.out]; exact hmk
    have hye : ys = clF zs := by rw [HYS.out]; unfold cloZ; rw [HD.out, ← clF_is]; rfl
    subst hMe
    subst hmk
    have hy8 : ys.length ≤ 8 := by rw [hye, ← clF_is]; exact hcl8
    have hyS : Sets k ys := by rw [hye]; exact clo_sets hk6 hset
    have hyf : famIn (k : Int) ys = true := fam_of hk1 hk6 hy8 hyS
    have hcc : clF ys = ys := by rw [hye]; exact clo_clo hk6 hset
    have hcb : cloB (k : Int) ys = true := by unfold cloB; rw [hyf, clF_is, hcc, decide_eq_true hy8]; rfl
    have hcm : cloM (k : Int) ys = (k : Int) := by unfold cloM; rw [hcb]; rfl
    have hcz : cloZ (k : Int) ys = ys := by unfold cloZ; rw [hcb, clF_is, hcc]; rfl
    have hco : famCommon (k : Int) ys = famCommon (k : Int) zs := by unfold famCommon; rw [hyf, hfm]; simp only [if_true]; rw [hye]; exact clo_common hk1 hk6 hset
    obtain ⟨ss, hss⟩ : ∃ ss, ss = simpZ zs := ⟨_, rfl⟩
    have hsl : ss.length ≤ 8 := by rw [hss]; exact Nat.le_trans (simpZ_le zs) hl8
    have hsin : ∀ i, i < ss.length → inTo ys (ss[i]?.getD 0) ys.length = true := fun i hi => inTo_mem (by
      have h := getD_mem (zs := ss) (i := i) hi
      rw [hss] at h ⊢
      obtain ⟨j, hj, he⟩ := List.mem_iff_getElem.1 ((simpZ_mem zs _).1 h)
      rw [hye, ← he]
      have := clo_has hk6 hset hj
      rwa [List.getElem?_eq_getElem hj] at this)
    have HXC := Lib.hid (fun W (hi : Ints W W.heap.size a2 ys) => implMeetClose_any (k : Int) a2 c2 ys W hi hyl)
    rw [hcb, hcm, hcz] at HXC
    have HSM := Lib.hid (fun W (hi : Ints W W.heap.size a1 zs) => implSimple_any (k : Int) a1 c1 zs W hi hln)
    rw [hfm] at HSM
    simp only [famM, famF, if_true] at HSM
    rw [← hss] at HSM
    obtain ⟨C, hC⟩ : ∃ C, C = famCommon (k : Int) zs := ⟨_, rfl⟩
    have HC1 := Lib.hid (fun W (hi : Ints W W.heap.size a1 zs) => implCommon_any (k : Int) a1 c1 zs W hi hln)
    have HC2 := Lib.hid (fun W (hi : Ints W W.heap.size a2 ys) => implCommon_any (k : Int) a2 c2 ys W hi hyl)
    rw [hfm, ← hC] at HC1
    rw [hyf, hco, ← hC] at HC2
    have HIN := Lib.hid hsin
    clear hfm hcl8 hset hl8 hye hyS hyf hcc hcb hcm hcz hco hss hsin hC HM HYS HD
    have out_0 := f_out_4.out.x0
    have out_1 := f_out_4.out.x1
    go_wp2_with fail
    refine (HXC.out _ f_out_4.out.ints).mono ?_
    rintro e w5 ⟨a5, c5, rfl, ho5, hb5⟩
    have F5 := FB.start (m := (k : Int)) (c := c5) (own_ints ho5)
    have hb5x := hb5.trans ((below1 w5 (.cells #[.int .i64 ((k : Int)), .slice a5 (ys).length c5] 25)).mono hb5.size)
    have B5 := Lib.hid (B4.out.trans (hb5x.mono B4.out.size))
    have f_f_5 := Lib.hid (f_f_4.out.step hb5x)
    have f_out_5 := Lib.hid (f_out_4.out.step hb5x)
    have f_x_5 := Lib.hid F5
    clear F5 ho5 hb5 hb5x B4 f_f_4 f_out_4
    clear out_0 out_1
    have f_0 := f_f_5.out.x0
    have f_1 := f_f_5.out.x1
    go_wp2_with fail
    refine (HSM.out _ f_f_5.out.ints).mono ?_
    rintro e w6 ⟨a6, c6, rfl, ho6, hb6⟩
    have F6 := FB.start (m := (k : Int)) (c := c6) (own_ints ho6)
    have hb6x := hb6.trans ((below1 w6 (.cells #[.int .i64 ((k : Int)), .slice a6 (ss).length c6] 25)).mono hb6.size)
    have B6 := Lib.hid (B5.out.trans (hb6x.mono B5.out.size))
    have f_f_6 := Lib.hid (f_f_5.out.step hb6x)
    have f_out_6 := Lib.hid (f_out_5.out.step hb6x)
    have f_x_6 := Lib.hid (f_x_5.out.step hb6x)
    have f_s_6 := Lib.hid F6
    clear F6 ho6 hb6 hb6x B5 f_f_5 f_out_5 f_x_5
    clear f_0 f_1
    have f_0 := f_f_6.out.x0
    have f_1 := f_f_6.out.x1
    go_wp2_with fail
    refine (HC1.out _ f_f_6.out.ints).mono ?_
    rintro e w7 ⟨rfl, hb7⟩
    have B7 := Lib.hid (B6.out.trans (hb7.mono B6.out.size))
    have f_f_7 := Lib.hid (f_f_6.out.step hb7)
    have f_out_7 := Lib.hid (f_out_6.out.step hb7)
    have f_x_7 := Lib.hid (f_x_6.out.step hb7)
    have f_s_7 := Lib.hid (f_s_6.out.step hb7)
    clear hb7 B6 f_f_6 f_out_6 f_x_6 f_s_6
    clear f_0 f_1
    have out_0 := f_out_7.out.x0
    have out_1 := f_out_7.out.x1
    go_wp2_with fail
    refine (HC2.out _ f_out_7.out.ints).mono ?_
    rintro e w8 ⟨rfl, hb8⟩
    have B8 := Lib.hid (B7.out.trans (hb8.mono B7.out.size))
    have f_f_8 := Lib.hid (f_f_7.out.step hb8)
    have f_out_8 := Lib.hid (f_out_7.out.step hb8)
    have f_x_8 := Lib.hid (f_x_7.out.step hb8)
    have f_s_8 := Lib.hid (f_s_7.out.step hb8)
    clear hb8 B7 f_f_7 f_out_7 f_x_7 f_s_7
    clear out_0 out_1
    have out_0 := f_out_8.out.x0
    have out_1 := f_out_8.out.x1
    have s_0 := f_s_8.out.x0
    have s_1 := f_s_8.out.x1
    have x_0 := f_x_8.out.x0
    have x_1 := f_x_8.out.x1
    clear HXC HSM HC1 HC2
    have HIS := f_s_8.out.ints
    have HIO := f_out_8.out.ints
    have HSL := Lib.hid HIS
    have HOL := Lib.hid HIO
    have HSB := f_s_8
    have HOB := f_out_8
    clear HIS HIO
    go_wp2
    go_loopw [16] (fun i wr => ∃ t : Nat, t ≤ ss.length ∧ i = .int .i64 (t : Int) ∧ Below w8.heap.size w8 wr) (fun i _ => ss.length - (intOf i).toNat)
    case atStart => exact ⟨0, Nat.zero_le _, rfl, Below.refl _ _⟩
    case round =>
      obtain ⟨t, ht, rfl, hbr⟩ := hrel
      clear x_0 x_1 s_0 s_1 out_0 out_1
      have HR0 := Lib.hid hbr
      have o1 := (HOB.out.step hbr).x1
      have o0 := (HOB.out.step hbr).x0
      have s1 := (HSB.out.step hbr).x1
      clear hbr
      have ht0 : (0 : Int) ≤ (t : Int) := by omega
      by_cases hlt : t < ss.length
      · have hti : (t : Int) < (ss.length : Int) := by omega
        obtain ⟨b1, o1', rfl, hb1, hc1⟩ := HSL.out.at_ (k := t) hlt
        obtain ⟨q, hq⟩ : ∃ q, q = ss[t]?.getD 0 := ⟨_, rfl⟩
        have hqi := HIN.out t hlt
        rw [← hq] at hc1 hqi
        have HQI := Lib.hid hqi
        have HC1 := Lib.hid hc1
        have HB1' := Lib.hid hb1
        clear hq hqi hc1 hb1
        go_wp2
        clear o1 o0 s1
        go_loopw [17, 18] (fun n' i wr => ∃ j : Nat, j ≤ ys.length ∧ i = .int .i64 (j : Int) ∧ n' = .bool (inTo ys q j) ∧ Below w8.heap.size w8 wr) (fun _ i _ => ys.length - (intOf i).toNat)
        case atStart => exact ⟨0, Nat.zero_le _, rfl, rfl, HR0.out⟩
        case round =>
          obtain ⟨j, hj, rfl, rfl, hbr⟩ := hrel
          have HR1 := Lib.hid hbr
          have o1 := (HOB.out.step hbr).x1
          have s1 := (HSB.out.step hbr).x1
          clear hbr
          have hj0 : (0 : Int) ≤ (j : Int) := by omega
          by_cases hlt2 : j < ys.length
          · have hji : (j : Int) < (ys.length : Int) := by omega
            obtain ⟨b2, o2', rfl, hb2, hc2⟩ := HOL.out.at_ (k := j) hlt2
            obtain ⟨y, hy⟩ : ∃ y, y = ys[j]?.getD 0 := ⟨_, rfl⟩
            have hin := inTo_succ ys q hlt2
            rw [← hy] at hc2 hin
            clear hy
            have cc1 := (HR1.out.cell (p := ⟨b1, o1' + t, none⟩) HB1'.out).trans HC1.out
            have cc2 := (HR1.out.cell (p := ⟨b2, o2' + j, none⟩) hb2).trans hc2
            clear hc2 hb2
            cases he : inTo ys q j
            · have HE : Hid (inTo ys q (j + 1) = (y == q)) := Lib.hid (by rw [hin, he]; rfl)
              clear he hin
              go_wp2
              go_region_held3 (fun w' => w'.cell? ⟨w2.heap.size, 1, none⟩ = some (.slice (some ⟨b2, o2', none⟩) ys.length c2) ∧ w'.cell? ⟨w6.heap.size, 1, none⟩ = some (.slice (some ⟨b1, o1', none⟩) ss.length c6) ∧ w'.cell? ⟨b1, o1' + t, none⟩ = some (.int .i64 q) ∧ w'.cell? ⟨b2, o2' + j, none⟩ = some (.int .i64 y) ∧ w' = wr.drew) (exact ⟨o1, s1, cc1, cc2, rfl⟩) (first | fail)
              rename_i hHeldX
              clear hHeldX
              have HR2 := Lib.hid HR1.out.drew
              go_wp2
              go_roundw
              case rel => exact ⟨j + 1, by omega, by go_num, by rw [HE.out], HR2.out⟩
              case measure => simp [intOf]; omega
            · have HE : Hid (inTo ys q (j + 1) = true) := Lib.hid (by rw [hin, he]; rfl)
              clear he hin
              go_wp2
              go_region
              have HR2 := Lib.hid HR1.out.drew
              go_wp2
              go_roundw
              case rel => exact ⟨j + 1, by omega, by go_num, by rw [HE.out], HR2.out⟩
              case measure => simp [intOf]; omega
          · obtain rfl : j = ys.length := by omega
            rw [HQI.out]
            go_wp2
            go_roundw
            case rel => exact ⟨t + 1, by omega, by go_num, HR1.out⟩
            case measure => simp [intOf]; omega
      · obtain rfl : t = ss.length := by omega
        have x0 := (f_x_8.out.step HR0.out).x0
        have x1 := (f_x_8.out.step HR0.out).x1
        go_wp2_with fail
        refine (sameFamily_any _ _ _ _ _ _ _ _ _ (f_x_8.out.step HR0.out).ints (f_out_8.out.step HR0.out).ints hyl hyl).mono ?_
        rintro e w9 ⟨rfl, hb9⟩
        rw [sameF_self]
        have B9 := Lib.hid ((B8.out.trans (HR0.out.mono B8.out.size)).trans (hb9.mono (by have := B8.out.size; have := HR0.out.size; omega)))
        clear hb9
        go_wp2
        go_ret
        exact ⟨by simp, B9.out⟩

end Go.Proofs.Ytckbhhaigpajpaa
