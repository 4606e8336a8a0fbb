/- It is proved that the call of the law FnAlikeNames returns true; conditions: those of each statement. -/
import Derived.RowKit
import Derived.Laws.CopyRow
import Derived.Lib.SlBuf
import Derived.Deep.QuietTactic
import Derived.RangeFuncNested
import Derived.RangeFuncBound
import Derived.RangeFuncCalls
import Derived.RangeFuncLeaves
import Derived.RangeFuncBox
import Derived.RangeFuncWrites
import Derived.StillTailTactics
import Derived.Maps.OwnIn
import Derived.Maps.Ext
import Derived.DeepKeys4
import Derived.MapKept
import Derived.Test.YtjclfpcnfmpjdaaDoorRows
import Derived.WalkKit
import Derived.WalkSpells
import Derived.ProofKit
import Derived.OpenShut
import Derived.ShutString
import Derived.ChangeOld
import Derived.Below
import Derived.Deep.RegionHeld3
import Derived.BigQuiet
import Derived.Lib.Hide
import Derived.Lib.SmallJoins
import Derived.Outline
import Derived.Laws.MakeOwn
import Derived.Laws.OwnMore
import Derived.IntWalk
import Derived.Maps.AppendAt
import Derived.Sort.MapsRangeIn
import Derived.Deep.RegionLaw
import Derived.Deep.AppendLies
import Derived.Lib.AppendZeros
import Derived.OwnWalk
import Derived.Lib.SlicesCompact
import Derived.Lib.OwnBridge
import Derived.OrdersIn
import Derived.TacticsIn
import Derived.Shelf.Sort.Plain
import Derived.Shelf.Slices.In.SortNone
import Derived.Shelf.Slices.CompactI
import Derived.Ground.Names2Prog
import Derived.Shelf.Abstract
import Derived.Shelf.RegionOpen
import Derived.OwnWalkIn
import Derived.TacticsInMore
import Derived.LoopNIn
import Derived.LoopIn
import Derived.StillTail
import Derived.StillTactics
import Derived.Shelf.Spec.TrailingZeros
import Derived.Test.YtjclfpcnfmpjdaaDoorMsa
import Derived.Test.YtjclfpcnfmpjdaaDoorMsb
import Derived.Test.YtjclfpcnfmpjdaaDoorBv
import Derived.Test.YtjclfpcnfmpjdaaDoorBx
import Derived.Test.YtjclfpcnfmpjdaaDoorBy
import Derived.Test.YtjclfpcnfmpjdaaDoorCa
import Derived.Test.YtjclfpcnfmpjdaaDoorCc
import Derived.Test.YtjclfpcnfmpjdaaDoorDe
import Derived.Test.YtjclfpcnfmpjdaaDoorFb
import Derived.Test.YtjclfpcnfmpjdaaDoorNf
import Derived.Test.YtjclfpcnfmpjdaaDoorNg
import Derived.Test.YtjclfpcnfmpjdaaDoorPso
import Derived.Test.YtjclfpcnfmpjdaaDoorQa
namespace Go.Proofs.YtjclfpcnfmpjdaaDoor
open Go.RowKit

theorem perm_names_fin : ∀ k : Fin 7, ∀ p ∈ lvlL k.val k.val, namesB k.val (nI p) = true := by decide +kernel
theorem perm_names {k : Nat} (hk : k ≤ 6) {p : List Nat} (h : p ∈ lvlL k k) : namesB k (nI p) = true := perm_names_fin ⟨k, by omega⟩ p h
theorem first_in {k : Nat} (hk : k ≤ 6) (zs : List Int) : firstN k zs ∈ lvlL k k := bestG_in zs (lvlL k k) _ (by have := lvlL_pos hk; omega)
theorem names_facts {m : Int} {zs : List Int} (h : famIn m zs = true) : namIn m zs (namesZ m zs) = true ∧ sortZ (namZ m zs (namesZ m zs)) = aleastL m zs := by
  obtain ⟨hm1, hm6, -, -⟩ := famIn_out h
  obtain ⟨k, rfl⟩ : ∃ k : Nat, m = (k : Int) := ⟨m.toNat, by omega⟩
  have e1 : namesZ (k : Int) zs = nI (firstN k zs) := by simp [namesZ, h]
  have h2 : namIn (k : Int) zs (nI (firstN k zs)) = true := by
    rw [namIn, h, Bool.true_and]
    exact perm_names (by omega) (first_in (by omega) zs)
  rw [e1]
  refine ⟨h2, ?_⟩
  rw [namZ, if_pos h2, aleastL, if_pos h]
  rfl

set_option maxRecDepth 100000 in
set_option maxHeartbeats 8000000 in
theorem walkFnAlikeNames (a : Option Addr) (n cap : Nat) (w : World) (hb : Bys w w.heap.size a n) (hT : Tab w) (hn : n ≤ 1048576) (hc : n ≤ cap) (hc2 : cap ≤ 9223372036854775807) :
    Calls Tryd.prog 5 #[.slice a n cap] w fun e w' => e = .returned (.bool true) ∧ Below w.heap.size w w' := by
  have HBy := Lib.hid hb
  have HT := Lib.hid hT
  clear hb hT
  go_enter Tryd.func5, Tryd.ntmps5
  go_wp2_with fail
  refine (drawAlikeNames_any a n cap w HBy.out hn hc hc2).mono ?_
  rintro e w1 ⟨m, a1, zs, c1, rfl, hl, ho1, hb1⟩
  have F1 := FB.start (m := m) (c := c1) (own_ints ho1)
  have B1 := Lib.hid (hb1.trans ((below1 w1 (.cells #[.int .i64 m, .slice a1 zs.length c1] 25)).mono hb1.size))
  have hln : zs.length ≤ 1048576 := by omega
  have f_1 := Lib.hid F1
  clear F1 ho1 hb1
  obtain ⟨ps, hps⟩ : ∃ ps, ps = namesZ m zs := ⟨_, rfl⟩
  have hpl : ps.length ≤ 1048576 := by rw [hps]; exact namesZ_len m zs
  have HPS := Lib.hid hps
  clear hps
  have x0 := f_1.out.x0
  have x1 := f_1.out.x1
  go_wp2_with fail
  refine (implNames_any m a1 c1 zs _ f_1.out.ints (HT.out.below B1.out HT.out.lt) hln).mono ?_
  rw [← HPS.out]
  rintro e w2 ⟨a2, c2, rfl, ho2, hb2⟩
  have l_2 := Lib.hid (own_ints ho2)
  have B2 := Lib.hid (B1.out.trans (hb2.mono B1.out.size))
  have f_2 := Lib.hid (f_1.out.step hb2)
  clear ho2 hb2 B1 f_1 x0 x1
  have x0 := f_2.out.x0
  have x1 := f_2.out.x1
  go_wp2_with fail
  refine (specNames_any m a1 c1 zs _ f_2.out.ints hln).mono ?_
  rw [← HPS.out]
  rintro e w3 ⟨a3, c3, rfl, ho3, hb3⟩
  have k_3 := Lib.hid (own_ints ho3)
  have l_3 := Lib.hid (l_2.out.step hb3)
  have B3 := Lib.hid (B2.out.trans (hb3.mono B2.out.size))
  have f_3 := Lib.hid (f_2.out.step hb3)
  clear ho3 hb3 B2 f_2 l_2 x0 x1
  cases hd : famIn m zs
  · clear hd HPS
    go_wp2_with fail
    refine (sameInts_any _ _ _ _ ps ps _ l_3.out k_3.out hpl hpl).mono ?_
    rintro e w4 ⟨rfl, hb4⟩
    rw [sameB_self]
    have B4 := Lib.hid (B3.out.trans (hb4.mono B3.out.size))
    have l_4 := Lib.hid (l_3.out.step hb4)
    have k_4 := Lib.hid (k_3.out.step hb4)
    clear hb4 B3 l_3 k_3
    go_wp2_with fail
    refine (sameInts_any _ _ _ _ ps ps _ l_4.out k_4.out hpl hpl).mono ?_
    rintro e w5 ⟨rfl, hb5⟩
    rw [sameB_self]
    have B5 := Lib.hid (B4.out.trans (hb5.mono B4.out.size))
    clear hb5 B4
    go_wp2
    go_ret
    exact ⟨rfl, B5.out⟩
  · have HD := Lib.hid hd
    clear hd
    go_wp2_with fail
    refine (sameInts_any _ _ _ _ ps ps _ l_3.out k_3.out hpl hpl).mono ?_
    rintro e w4 ⟨rfl, hb4⟩
    rw [sameB_self]
    have B4 := Lib.hid (B3.out.trans (hb4.mono B3.out.size))
    have l_4 := Lib.hid (l_3.out.step hb4)
    have f_4 := Lib.hid (f_3.out.step hb4)
    clear hb4 B3 l_3 k_3 f_3
    obtain ⟨qs, hqs⟩ : ∃ qs, qs = namZ m zs ps := ⟨_, rfl⟩
    obtain ⟨rs, hrs⟩ : ∃ rs, rs = aleastL m zs := ⟨_, rfl⟩
    have hql : qs.length ≤ 1048576 := by rw [hqs]; exact namZ_len m zs ps hln
    have hrl : rs.length ≤ 1048576 := by rw [hrs]; exact aleastL_len m zs
    have HF : Hid (namIn m zs ps = true ∧ sortZ qs = rs) := Lib.hid (by rw [hqs, hrs, HPS.out]; exact names_facts HD.out)
    have HQ := Lib.hid hqs
    have HR := Lib.hid hrs
    obtain ⟨M, hM⟩ : ∃ M, M = namM m zs ps := ⟨_, rfl⟩
    have HM := Lib.hid hM
    obtain ⟨K, hK⟩ : ∃ K, K = aleastM m zs := ⟨_, rfl⟩
    have HK := Lib.hid hK
    clear hqs hrs hM hK
    have x0 := f_4.out.x0
    have x1 := f_4.out.x1
    go_wp2_with fail
    refine (implNamed_any m a1 a2 c1 c2 zs ps _ f_4.out.ints l_4.out hln hpl (HT.out.below B4.out HT.out.lt)).mono ?_
    rw [← HM.out, ← HQ.out, HF.out.1]
    rintro e w5 ⟨a5, c5, rfl, ho5, hb5⟩
    have F5 := FB.start (m := M) (c := c5) (own_ints ho5)
    have hb5x := hb5.trans ((below1 w5 (.cells #[.int .i64 M, .slice a5 qs.length c5] 25)).mono hb5.size)
    have B5 := Lib.hid (B4.out.trans (hb5x.mono B4.out.size))
    have f_5 := Lib.hid (f_4.out.step hb5x)
    have g_5 := Lib.hid F5
    clear F5 ho5 hb5 hb5x B4 f_4 l_4 x0 x1
    have x0 := f_5.out.x0
    have x1 := f_5.out.x1
    go_wp2_with fail
    refine (implALeast_any m a1 c1 zs _ f_5.out.ints (HT.out.below B5.out HT.out.lt) hln).mono ?_
    rw [← HK.out, ← HR.out, HD.out]
    rintro e w6 ⟨a6, c6, rfl, ho6, hb6⟩
    have F6 := FB.start (m := K) (c := c6) (own_ints ho6)
    have hb6x := hb6.trans ((below1 w6 (.cells #[.int .i64 K, .slice a6 rs.length c6] 25)).mono hb6.size)
    have B6 := Lib.hid (B5.out.trans (hb6x.mono B5.out.size))
    have g_6 := Lib.hid (g_5.out.step hb6x)
    have h_6 := Lib.hid F6
    clear F6 ho6 hb6 hb6x B5 f_5 g_5 x0 x1
    go_wp2_with fail
    obtain ⟨V, hV⟩ : ∃ V, V = w6.alloc (.cells #[.int .i64 K, .slice a6 rs.length c6] 25) := ⟨_, rfl⟩
    rw [← hV] at B6 g_6 h_6 ⊢
    have Gd : FB w5.heap.size M a5 qs c5 V.drew := ⟨g_6.out.blk, g_6.out.ints⟩
    have Hd : FB w6.heap.size K a6 rs c6 V.drew := ⟨h_6.out.blk, h_6.out.ints⟩
    have Bd := Lib.hid B6.out.drew
    clear g_6 h_6 B6 hV
    have y1 := Gd.x1
    have z1 := Hd.x1
    go_region_held3 (fun w' => w'.cell? ⟨w5.heap.size, 1, none⟩ = some (.slice a5 qs.length c5) ∧ w'.cell? ⟨w6.heap.size, 1, none⟩ = some (.slice a6 rs.length c6) ∧ FB w6.heap.size K a6 rs c6 w' ∧ Below w.heap.size w w')
      (first
        | exact ⟨G8.x1, H8.x1, H8, B8⟩
        | exact ⟨G7.x1, H7.x1, H7, B7⟩
        | exact ⟨y1, z1, Hd, Bd.out⟩)
      (first
        | (go_at_call 17; refine (sorted_any a5 c5 qs _ Gd.ints hql).mono ?_; rw [HF.out.2]; rintro e w7 ⟨a7, c7, rfl, ho7, hb7⟩; have G7 := Gd.step hb7; have H7 := Hd.step hb7; have B7 := Bd.out.trans (hb7.mono Bd.out.size))
        | (go_at_call 16; refine (sameInts_any _ _ _ _ rs rs _ (own_ints ho7) H7.ints hrl hrl).mono ?_; rintro e w8 ⟨rfl, hb8⟩; rw [sameB_self]; have G8 := G7.step hb8; have H8 := H7.step hb8; have B8 := B7.trans (hb8.mono B7.size)))
    rename_i hHeld
    have HE := Lib.hid hHeld.2.2.2
    clear hHeld Gd Hd y1 z1 G7 H7 B7 G8 H8 B8 hb7 hb8 ho7
    go_wp2
    go_ret
    exact ⟨rfl, HE.out⟩

end Go.Proofs.YtjclfpcnfmpjdaaDoor
