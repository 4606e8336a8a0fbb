/- It is proved that the call of the law FnAlike returns true; conditions: those of each statement. -/
import Derived.RowKit
import Derived.Laws.CopyRow
import Derived.Lib.SlBuf
import Derived.Deep.QuietTactic
import Derived.RangeFuncNested
import Derived.RangeFuncBound
import Derived.RangeFuncCalls
import Derived.RangeFuncLeaves
import Derived.RangeFuncBox
import Derived.RangeFuncWrites
import Derived.StillTailTactics
import Derived.Maps.OwnIn
import Derived.Maps.Ext
import Derived.DeepKeys4
import Derived.MapKept
import Derived.Test.YtgpgocijacgkhaaDoorRows
import Derived.WalkKit
import Derived.WalkSpells
import Derived.ProofKit
import Derived.OpenShut
import Derived.ShutString
import Derived.ChangeOld
import Derived.Below
import Derived.Deep.RegionHeld3
import Derived.BigQuiet
import Derived.Lib.Hide
import Derived.Lib.SmallJoins
import Derived.Outline
import Derived.Laws.MakeOwn
import Derived.Laws.OwnMore
import Derived.IntWalk
import Derived.Maps.AppendAt
import Derived.Sort.MapsRangeIn
import Derived.Deep.RegionLaw
import Derived.Deep.AppendLies
import Derived.Deep.RegionWith
import Derived.Lib.AppendZeros
import Derived.OwnWalk
import Derived.Lib.SlicesCompact
import Derived.Lib.OwnBridge
import Derived.OrdersIn
import Derived.TacticsIn
import Derived.Shelf.Sort.Plain
import Derived.Shelf.Slices.In.SortNone
import Derived.Shelf.Slices.CompactI
import Derived.Ground.Names2Prog
import Derived.Shelf.Abstract
import Derived.Shelf.RegionOpen
import Derived.OwnWalkIn
import Derived.TacticsInMore
import Derived.LoopNIn
import Derived.LoopIn
import Derived.Deep.DeepCutAuto
import Derived.StillTail
import Derived.StillTactics
import Derived.Shelf.Spec.TrailingZeros
import Derived.Test.YtgpgocijacgkhaaDoorRabnxFnAlik
import Derived.Test.YtgpgocijacgkhaaDoorRaboxFnAlik
import Derived.Test.YtgpgocijacgkhaaDoorRabpxFnAlik
import Derived.Test.YtgpgocijacgkhaaDoorRaab
import Derived.Test.YtgpgocijacgkhaaDoorDb
import Derived.Test.YtgpgocijacgkhaaDoorRaag
import Derived.Test.YtgpgocijacgkhaaDoorRaah
import Derived.Test.YtgpgocijacgkhaaDoorRabqxFnAlik
import Derived.Test.YtgpgocijacgkhaaDoorRabsxFnAlik
import Derived.Test.YtgpgocijacgkhaaDoorQj
import Derived.Test.YtgpgocijacgkhaaDoorRaac
import Derived.Test.YtgpgocijacgkhaaDoorTc
import Derived.Test.YtgpgocijacgkhaaDoorTd
import Derived.Test.YtgpgocijacgkhaaDoorRabrxFnAlik
import Derived.Test.YtgpgocijacgkhaaDoorRaaz
namespace Go.Proofs.YtgpgocijacgkhaaDoor
open Go.RowKit

set_option maxRecDepth 100000 in
set_option maxHeartbeats 8000000 in
theorem walkFnAlike (a : Option Addr) (n cap : Nat) (w : World) (hb : Bys w w.heap.size a n) (hT : Tab w) (hn : n ≤ 1048576) (hc : n ≤ cap) (hc2 : cap ≤ 9223372036854775807) :
    Calls Tryd.prog 7 #[.slice a n cap] w fun e w' => e = .returned (.bool true) ∧ Below w.heap.size w w' := by
  have HBy := Lib.hid hb
  have HT := Lib.hid hT
  clear hb hT
  go_enter Tryd.func7, Tryd.ntmps7
  go_wp2_with fail
  refine (drawAlikeIn_any a n cap w HBy.out hn hc hc2).mono ?_
  rintro e w1 ⟨m, af, xs, cf, j, ag, ys, cg, rfl, ⟨hxl9, hyl9⟩, hif, hig, hb1⟩
  have hbx : Below w1.heap.size w1 ((w1.alloc (.cells #[.int .i64 m, .slice af xs.length cf] 25)).alloc (.cells #[.int .i64 j, .slice ag ys.length cg] 25)) := below2 w1 _ _
  have B1 := Lib.hid (hb1.trans (hbx.mono hb1.size))
  have f_1 := Lib.hid ((FB.start (m := m) (c := cf) hif).step (below1 (w1.alloc (.cells #[.int .i64 m, .slice af xs.length cf] 25)) (.cells #[.int .i64 j, .slice ag ys.length cg] 25)))
  have g_1 : Hid (FB (w1.heap.size + 1) j ag ys cg ((w1.alloc (.cells #[.int .i64 m, .slice af xs.length cf] 25)).alloc (.cells #[.int .i64 j, .slice ag ys.length cg] 25))) := Lib.hid (by
    have h := FB.start (w := w1.alloc (.cells #[.int .i64 m, .slice af xs.length cf] 25)) (m := j) (c := cg) (hig.step (below1 w1 _))
    simpa using h)
  have hxl : xs.length ≤ 1048576 := by omega
  have hyl : ys.length ≤ 1048576 := by omega
  clear hif hig hb1 hbx
  obtain ⟨t, ht⟩ : ∃ t, t = alikeB m xs j ys := ⟨_, rfl⟩
  have HTT := Lib.hid ht
  clear ht
  have fx0 := f_1.out.x0
  have fx1 := f_1.out.x1
  have gx0 := g_1.out.x0
  have gx1 := g_1.out.x1
  go_wp2_with fail
  refine (implAIn_any m j af ag cf cg xs ys _ f_1.out.ints g_1.out.ints (HT.out.below B1.out HT.out.lt) hxl hyl).mono ?_
  rw [← HTT.out]
  rintro e w2 ⟨rfl, hb2⟩
  have B2 := Lib.hid (B1.out.trans (hb2.mono B1.out.size))
  have f_2 := Lib.hid (f_1.out.step hb2)
  have g_2 := Lib.hid (g_1.out.step hb2)
  clear hb2 B1 f_1 g_1
  clear fx0 fx1 gx0 gx1
  have fx0 := f_2.out.x0
  have fx1 := f_2.out.x1
  have gx0 := g_2.out.x0
  have gx1 := g_2.out.x1
  go_wp2_with fail
  refine (specAIn_any m j af ag cf cg xs ys _ f_2.out.ints g_2.out.ints hxl hyl).mono ?_
  rw [← HTT.out]
  rintro e w3 ⟨rfl, hb3⟩
  have B3 := Lib.hid (B2.out.trans (hb3.mono B2.out.size))
  have f_3 := Lib.hid (f_2.out.step hb3)
  have g_3 := Lib.hid (g_2.out.step hb3)
  clear hb3 B2 f_2 g_2
  clear fx0 fx1 gx0 gx1
  cases t
  · clear HTT
    go_wp2
    go_ret
    exact ⟨rfl, B3.out⟩
  · obtain ⟨hjm, hfx, hfy, hll, hsz, hdg, hba, hmx, hmy, hot⟩ := alike_facts HTT.out.symm
    have hmj := hjm.symm
    clear hjm
    subst hmj
    obtain ⟨sa, hsa⟩ : ∃ sa, sa = sizesZ m xs := ⟨_, rfl⟩
    obtain ⟨sb, hsb⟩ : ∃ sb, sb = sizesZ m ys := ⟨_, rfl⟩
    obtain ⟨da, hda⟩ : ∃ da, da = famDeg m xs := ⟨_, rfl⟩
    obtain ⟨db, hdb⟩ : ∃ db, db = famDeg m ys := ⟨_, rfl⟩
    obtain ⟨ox, hox⟩ : ∃ ox, ox = otherZ m xs := ⟨_, rfl⟩
    obtain ⟨oy, hoy⟩ : ∃ oy, oy = otherZ m ys := ⟨_, rfl⟩
    have lsa : sa.length ≤ 1048576 := by rw [hsa]; exact sizesZ_len m xs hxl
    have lsb : sb.length ≤ 1048576 := by rw [hsb]; exact sizesZ_len m ys hyl
    have lda : da.length ≤ 1048576 := by rw [hda]; exact famDeg_len m xs
    have ldb : db.length ≤ 1048576 := by rw [hdb]; exact famDeg_len m ys
    have lox : ox.length ≤ 1048576 := by rw [hox]; exact otherZ_len m xs hxl
    have loy : oy.length ≤ 1048576 := by rw [hoy]; exact otherZ_len m ys hyl
    rw [← hsa, ← hsb] at hsz
    rw [← hda, ← hdb] at hdg
    rw [← hox, ← hoy] at hot
    obtain ⟨ss, hss⟩ : ∃ ss, ss = sortZ sa := ⟨_, rfl⟩
    obtain ⟨dd, hdd⟩ : ∃ dd, dd = sortZ da := ⟨_, rfl⟩
    have lss : ss.length ≤ 1048576 := by rw [hss, sortZ_length]; exact lsa
    have ldd : dd.length ≤ 1048576 := by rw [hdd, sortZ_length]; exact lda
    rw [← hss] at hsz
    rw [← hdd] at hdg
    have HSA := Lib.hid hsa
    have HSB := Lib.hid hsb
    have HDA := Lib.hid hda
    have HDB := Lib.hid hdb
    have HOX := Lib.hid hox
    have HOY := Lib.hid hoy
    have HSS := Lib.hid hss
    have HDD := Lib.hid hdd
    have HSZ := Lib.hid hsz
    have HDG := Lib.hid hdg
    have HFX := Lib.hid hfx
    have HFY := Lib.hid hfy
    have HBA := Lib.hid hba
    have HMX := Lib.hid hmx
    have HMY := Lib.hid hmy
    have HOT := Lib.hid hot
    clear hsa hsb hda hdb hox hoy hss hdd hsz hdg hfx hfy hba hmx hmy hot hll HTT
    have fx0 := f_3.out.x0
    have fx1 := f_3.out.x1
    go_wp2_with fail
    refine (implSizes_any m af cf xs _ f_3.out.ints hxl).mono ?_
    rw [← HSA.out, HFX.out]
    rintro e w4 ⟨a4, c4, rfl, ho4, hb4⟩
    have p_4n := Lib.hid (own_ints ho4)
    clear ho4
    have B4 := Lib.hid (B3.out.trans (hb4.mono B3.out.size))
    have f_4 := Lib.hid (f_3.out.step hb4)
    have g_4 := Lib.hid (g_3.out.step hb4)
    clear hb4 B3 f_3 g_3
    clear fx0 fx1
    have gx0 := g_4.out.x0
    have gx1 := g_4.out.x1
    go_wp2_with fail
    refine (implSizes_any m ag cg ys _ g_4.out.ints hyl).mono ?_
    rw [← HSB.out, HFY.out]
    rintro e w5 ⟨a5, c5, rfl, ho5, hb5⟩
    have q_5n := Lib.hid (own_ints ho5)
    clear ho5
    have B5 := Lib.hid (B4.out.trans (hb5.mono B4.out.size))
    have f_5 := Lib.hid (f_4.out.step hb5)
    have g_5 := Lib.hid (g_4.out.step hb5)
    have p_5 := Lib.hid (p_4n.out.step hb5)
    clear hb5 B4 f_4 g_4 p_4n
    clear gx0 gx1
    have fx0 := f_5.out.x0
    have fx1 := f_5.out.x1
    go_wp2_with fail
    refine (implDegrees_any m af cf xs _ f_5.out.ints (HT.out.below B5.out HT.out.lt) hxl).mono ?_
    rw [← HDA.out, HFX.out]
    rintro e w6 ⟨a6, c6, rfl, ho6, hb6⟩
    have r_6n := Lib.hid (own_ints ho6)
    clear ho6
    have B6 := Lib.hid (B5.out.trans (hb6.mono B5.out.size))
    have f_6 := Lib.hid (f_5.out.step hb6)
    have g_6 := Lib.hid (g_5.out.step hb6)
    have p_6 := Lib.hid (p_5.out.step hb6)
    have q_6 := Lib.hid (q_5n.out.step hb6)
    clear hb6 B5 f_5 g_5 p_5 q_5n
    clear fx0 fx1
    have gx0 := g_6.out.x0
    have gx1 := g_6.out.x1
    go_wp2_with fail
    refine (implDegrees_any m ag cg ys _ g_6.out.ints (HT.out.below B6.out HT.out.lt) hyl).mono ?_
    rw [← HDB.out, HFY.out]
    rintro e w7 ⟨a7, c7, rfl, ho7, hb7⟩
    have s_7n := Lib.hid (own_ints ho7)
    clear ho7
    have B7 := Lib.hid (B6.out.trans (hb7.mono B6.out.size))
    have f_7 := Lib.hid (f_6.out.step hb7)
    have g_7 := Lib.hid (g_6.out.step hb7)
    have p_7 := Lib.hid (p_6.out.step hb7)
    have q_7 := Lib.hid (q_6.out.step hb7)
    have r_7 := Lib.hid (r_6n.out.step hb7)
    clear hb7 B6 f_6 g_6 p_6 q_6 r_6n
    clear gx0 gx1
    have fx0 := f_7.out.x0
    have fx1 := f_7.out.x1
    go_wp2_with fail
    refine (implOther_any m af cf xs _ f_7.out.ints hxl).mono ?_
    rw [← HOX.out, HMX.out, HFX.out]
    rintro e w8 ⟨a8, c8, rfl, ho8, hb8⟩
    have u_8n := Lib.hid (FB.start (m := m) (c := c8) (own_ints ho8))
    have hx8 := hb8.trans ((below1 w8 (.cells #[.int .i64 m, .slice a8 ox.length c8] 25)).mono hb8.size)
    clear ho8 hb8
    have B8 := Lib.hid (B7.out.trans (hx8.mono B7.out.size))
    have f_8 := Lib.hid (f_7.out.step hx8)
    have g_8 := Lib.hid (g_7.out.step hx8)
    have p_8 := Lib.hid (p_7.out.step hx8)
    have q_8 := Lib.hid (q_7.out.step hx8)
    have r_8 := Lib.hid (r_7.out.step hx8)
    have s_8 := Lib.hid (s_7n.out.step hx8)
    clear hx8 B7 f_7 g_7 p_7 q_7 r_7 s_7n
    clear fx0 fx1
    have gx0 := g_8.out.x0
    have gx1 := g_8.out.x1
    go_wp2_with fail
    refine (implOther_any m ag cg ys _ g_8.out.ints hyl).mono ?_
    rw [← HOY.out, HMY.out, HFY.out]
    rintro e w9 ⟨a9, c9, rfl, ho9, hb9⟩
    have v_9n := Lib.hid (FB.start (m := m) (c := c9) (own_ints ho9))
    have hx9 := hb9.trans ((below1 w9 (.cells #[.int .i64 m, .slice a9 oy.length c9] 25)).mono hb9.size)
    clear ho9 hb9
    have B9 := Lib.hid (B8.out.trans (hx9.mono B8.out.size))
    have f_9 := Lib.hid (f_8.out.step hx9)
    have g_9 := Lib.hid (g_8.out.step hx9)
    have p_9 := Lib.hid (p_8.out.step hx9)
    have q_9 := Lib.hid (q_8.out.step hx9)
    have r_9 := Lib.hid (r_8.out.step hx9)
    have s_9 := Lib.hid (s_8.out.step hx9)
    have u_9 := Lib.hid (u_8n.out.step hx9)
    clear hx9 B8 f_8 g_8 p_8 q_8 r_8 s_8 u_8n
    clear gx0 gx1
    go_wp2_with fail
    refine (sorted_any a4 c4 sa _ p_9.out lsa).mono ?_
    rw [← HSS.out]
    rintro e w10 ⟨a10, c10, rfl, ho10, hb10⟩
    have k_10n := Lib.hid (own_ints ho10)
    clear ho10
    have B10 := Lib.hid (B9.out.trans (hb10.mono B9.out.size))
    have f_10 := Lib.hid (f_9.out.step hb10)
    have g_10 := Lib.hid (g_9.out.step hb10)
    have p_10 := Lib.hid (p_9.out.step hb10)
    have q_10 := Lib.hid (q_9.out.step hb10)
    have r_10 := Lib.hid (r_9.out.step hb10)
    have s_10 := Lib.hid (s_9.out.step hb10)
    have u_10 := Lib.hid (u_9.out.step hb10)
    have v_10 := Lib.hid (v_9n.out.step hb10)
    clear hb10 B9 f_9 g_9 p_9 q_9 r_9 s_9 u_9 v_9n
    clear p_10
    go_wp2_with fail
    refine (sorted_any a5 c5 sb _ q_10.out lsb).mono ?_
    rw [← HSZ.out]
    rintro e w11 ⟨a11, c11, rfl, ho11, hb11⟩
    have l_11n := Lib.hid (own_ints ho11)
    clear ho11
    have B11 := Lib.hid (B10.out.trans (hb11.mono B10.out.size))
    have f_11 := Lib.hid (f_10.out.step hb11)
    have g_11 := Lib.hid (g_10.out.step hb11)
    have q_11 := Lib.hid (q_10.out.step hb11)
    have r_11 := Lib.hid (r_10.out.step hb11)
    have s_11 := Lib.hid (s_10.out.step hb11)
    have u_11 := Lib.hid (u_10.out.step hb11)
    have v_11 := Lib.hid (v_10.out.step hb11)
    have k_11 := Lib.hid (k_10n.out.step hb11)
    clear hb11 B10 f_10 g_10 q_10 r_10 s_10 u_10 v_10 k_10n
    clear q_11
    go_wp2_with fail
    refine (sameInts_any _ _ _ _ _ _ _ k_11.out l_11n.out lss lss).mono ?_
    rintro e w12 ⟨rfl, hb12⟩
    have B12 := Lib.hid (B11.out.trans (hb12.mono B11.out.size))
    have f_12 := Lib.hid (f_11.out.step hb12)
    have g_12 := Lib.hid (g_11.out.step hb12)
    have r_12 := Lib.hid (r_11.out.step hb12)
    have s_12 := Lib.hid (s_11.out.step hb12)
    have u_12 := Lib.hid (u_11.out.step hb12)
    have v_12 := Lib.hid (v_11.out.step hb12)
    have k_12 := Lib.hid (k_11.out.step hb12)
    have l_12 := Lib.hid (l_11n.out.step hb12)
    clear hb12 B11 f_11 g_11 r_11 s_11 u_11 v_11 k_11 l_11n
    clear k_12 l_12
    rw [sameB_refl]
    go_wp2_with fail
    refine (sorted_any a6 c6 da _ r_12.out lda).mono ?_
    rw [← HDD.out]
    rintro e w13 ⟨a13, c13, rfl, ho13, hb13⟩
    have k_13n := Lib.hid (own_ints ho13)
    clear ho13
    have B13 := Lib.hid (B12.out.trans (hb13.mono B12.out.size))
    have f_13 := Lib.hid (f_12.out.step hb13)
    have g_13 := Lib.hid (g_12.out.step hb13)
    have r_13 := Lib.hid (r_12.out.step hb13)
    have s_13 := Lib.hid (s_12.out.step hb13)
    have u_13 := Lib.hid (u_12.out.step hb13)
    have v_13 := Lib.hid (v_12.out.step hb13)
    clear hb13 B12 f_12 g_12 r_12 s_12 u_12 v_12
    clear r_13
    go_wp2_with fail
    refine (sorted_any a7 c7 db _ s_13.out ldb).mono ?_
    rw [← HDG.out]
    rintro e w14 ⟨a14, c14, rfl, ho14, hb14⟩
    have l_14n := Lib.hid (own_ints ho14)
    clear ho14
    have B14 := Lib.hid (B13.out.trans (hb14.mono B13.out.size))
    have f_14 := Lib.hid (f_13.out.step hb14)
    have g_14 := Lib.hid (g_13.out.step hb14)
    have s_14 := Lib.hid (s_13.out.step hb14)
    have u_14 := Lib.hid (u_13.out.step hb14)
    have v_14 := Lib.hid (v_13.out.step hb14)
    have k_14 := Lib.hid (k_13n.out.step hb14)
    clear hb14 B13 f_13 g_13 s_13 u_13 v_13 k_13n
    clear s_14
    go_wp2_with fail
    refine (sameInts_any _ _ _ _ _ _ _ k_14.out l_14n.out ldd ldd).mono ?_
    rintro e w15 ⟨rfl, hb15⟩
    have B15 := Lib.hid (B14.out.trans (hb15.mono B14.out.size))
    have f_15 := Lib.hid (f_14.out.step hb15)
    have g_15 := Lib.hid (g_14.out.step hb15)
    have u_15 := Lib.hid (u_14.out.step hb15)
    have v_15 := Lib.hid (v_14.out.step hb15)
    have k_15 := Lib.hid (k_14.out.step hb15)
    have l_15 := Lib.hid (l_14n.out.step hb15)
    clear hb15 B14 f_14 g_14 u_14 v_14 k_14 l_14n
    clear k_15 l_15
    rw [sameB_refl]
    have fx0 := f_15.out.x0
    have fx1 := f_15.out.x1
    have gx0 := g_15.out.x0
    have gx1 := g_15.out.x1
    go_wp2_with fail
    refine (implAIn_any m m ag af cg cf ys xs _ g_15.out.ints f_15.out.ints (HT.out.below B15.out HT.out.lt) hyl hxl).mono ?_
    rw [HBA.out]
    rintro e w16 ⟨rfl, hb16⟩
    have B16 := Lib.hid (B15.out.trans (hb16.mono B15.out.size))
    have f_16 := Lib.hid (f_15.out.step hb16)
    have g_16 := Lib.hid (g_15.out.step hb16)
    have u_16 := Lib.hid (u_15.out.step hb16)
    have v_16 := Lib.hid (v_15.out.step hb16)
    clear hb16 B15 f_15 g_15 u_15 v_15
    clear fx0 fx1 gx0 gx1
    clear f_16 g_16
    have ux0 := u_16.out.x0
    have ux1 := u_16.out.x1
    have vx0 := v_16.out.x0
    have vx1 := v_16.out.x1
    go_wp2_with fail
    refine (implAIn_any m m a8 a9 c8 c9 ox oy _ u_16.out.ints v_16.out.ints (HT.out.below B16.out HT.out.lt) lox loy).mono ?_
    rw [HOT.out]
    rintro e w17 ⟨rfl, hb17⟩
    have B17 := Lib.hid (B16.out.trans (hb17.mono B16.out.size))
    have u_17 := Lib.hid (u_16.out.step hb17)
    have v_17 := Lib.hid (v_16.out.step hb17)
    clear hb17 B16 u_16 v_16
    clear ux0 ux1 vx0 vx1
    go_wp2
    go_ret
    exact ⟨rfl, B17.out⟩

end Go.Proofs.YtgpgocijacgkhaaDoor
