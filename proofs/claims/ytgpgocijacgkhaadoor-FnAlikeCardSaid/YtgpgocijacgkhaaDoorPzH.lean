/- It is proved that the call of the law FnFamily returns true; conditions: those of each statement. -/
import Derived.Test.YtgpgocijacgkhaaDoorRows
import Derived.WalkKit
import Derived.WalkSpells
import Derived.ProofKit
import Derived.OpenShut
import Derived.ShutString
import Derived.ChangeOld
import Derived.Below
import Derived.Deep.RegionHeld3
import Derived.Deep.QuietTactic
import Derived.BigQuiet
import Derived.Lib.Hide
import Derived.Lib.SmallJoins
import Derived.Outline
import Derived.Laws.MakeOwn
import Derived.Laws.OwnMore
import Derived.IntWalk
import Derived.Deep.RegionLaw
import Derived.Deep.AppendLies
import Derived.Deep.RegionWith
import Derived.RangeFuncNested
import Derived.RangeFuncBound
import Derived.RangeFuncCalls
import Derived.RangeFuncLeaves
import Derived.RangeFuncBox
import Derived.Shelf.Abstract
import Derived.Shelf.RegionOpen
import Derived.OwnWalkIn
import Derived.TacticsInMore
import Derived.LoopNIn
import Derived.LoopIn
import Derived.Maps.AppendAt
import Derived.OwnWalk
import Derived.StillTail
import Derived.StillTactics
import Derived.OrdersIn
import Derived.TacticsIn
import Derived.Shelf.Spec.TrailingZeros
import Derived.StillTailTactics
import Derived.Test.YtgpgocijacgkhaaDoorRaab
import Derived.Test.YtgpgocijacgkhaaDoorDb
import Derived.Test.YtgpgocijacgkhaaDoorRaag
import Derived.Test.YtgpgocijacgkhaaDoorRaah
import Derived.Test.YtgpgocijacgkhaaDoorRaai
import Derived.Test.YtgpgocijacgkhaaDoorRaay
import Derived.Test.YtgpgocijacgkhaaDoorRaac
import Derived.Test.YtgpgocijacgkhaaDoorTb
import Derived.Test.YtgpgocijacgkhaaDoorTc
import Derived.Test.YtgpgocijacgkhaaDoorTd
import Derived.Test.YtgpgocijacgkhaaDoorRaar
import Derived.Test.YtgpgocijacgkhaaDoorRaaz
namespace Go.Proofs.YtgpgocijacgkhaaDoor
open Go.RowKit

theorem degs_small {k : Nat} {zs : List Int} (h : famIn (k : Int) zs = true) : ∀ z ∈ degL k (allMem zs), 0 ≤ z ∧ z ≤ 1000 := by
  intro z hz
  obtain ⟨h1, h2, h3, h4⟩ := famIn_out h
  unfold degL at hz
  obtain ⟨v, hv, rfl⟩ := List.mem_map.1 hz
  have hvk := List.mem_range.1 hv
  rw [count_all (by omega) zs (small63 h)]
  have := List.countP_le_length (p := hasM v) (l := zs)
  omega

theorem popG_small {z : Int} (h3 : 0 ≤ z) (h4 : z ≤ 63) : 0 ≤ pop z ∧ pop z ≤ 6 := by
  have h := pop_mem (s := z.toNat) (by omega)
  rw [Int.toNat_of_nonneg h3] at h
  have := mem_length z.toNat (by omega)
  omega

theorem family_facts {m : Int} {zs : List Int} (h : famIn m zs = true) : (famDeg m zs).sum = (sizesZ m zs).sum ∧ ((famDeg m zs).length : Int) = m ∧ (sizesZ m zs).length = zs.length ∧ (∀ z ∈ famDeg m zs, 0 ≤ z ∧ z ≤ 1000) ∧ ∀ z ∈ sizesZ m zs, 0 ≤ z ∧ z ≤ 1000 := by
  obtain ⟨h1, h2, h3, h4⟩ := famIn_out h
  have e1 : sizesZ m zs = zs.map pop := by simp [sizesZ, h]
  rw [e1]
  refine ⟨sums_same h, ?_, by simp, ?_, ?_⟩
  · rw [famDeg, if_pos h, degL_length]; omega
  · obtain ⟨k, rfl⟩ : ∃ k : Nat, m = (k : Int) := ⟨m.toNat, by omega⟩
    rw [famDeg, if_pos h, Int.toNat_natCast]
    exact degs_small h
  · intro y hy
    obtain ⟨z, hz, rfl⟩ := List.mem_map.1 hy
    have := small63 h z hz
    have := popG_small this.1 this.2
    omega

set_option maxRecDepth 100000 in
set_option maxHeartbeats 8000000 in
theorem walkFnFamily (a : Option Addr) (n cap : Nat) (w : World) (hb : Bys w w.heap.size a n) (hT : Tab w) (hn : n ≤ 1048576) (hc : n ≤ cap) (hc2 : cap ≤ 9223372036854775807) :
    Calls Tryd.prog 3 #[.slice a n cap] w fun e w' => e = .returned (.bool true) ∧ Below w.heap.size w w' := by
  have HBy := Lib.hid hb
  have HT := Lib.hid hT
  clear hb hT
  go_enter Tryd.func3, Tryd.ntmps3
  go_wp2_with fail
  refine (drawIn_any a n cap w HBy.out hn hc hc2).mono ?_
  rintro e w1 ⟨m, a1, zs, c1, rfl, hl, ho1, hb1⟩
  have F1 := FB.start (m := m) (c := c1) (own_ints ho1)
  have B1 := Lib.hid (hb1.trans ((below1 w1 (.cells #[.int .i64 m, .slice a1 zs.length c1] 25)).mono hb1.size))
  have hln : zs.length ≤ 1048576 := by omega
  have f_f_1 := Lib.hid F1
  clear F1 ho1 hb1
  have f_0 := f_f_1.out.x0
  have f_1 := f_f_1.out.x1
  cases hd : famIn m zs
  · have HD := Lib.hid hd
    clear hd
    go_wp2_with fail
    refine (implFamilyIn_any m a1 c1 zs _ f_f_1.out.ints hln).mono ?_
    rw [HD.out]
    rintro e w2 ⟨rfl, hb2⟩
    have B2 := Lib.hid (B1.out.trans (hb2.mono B1.out.size))
    have f_f_2 := Lib.hid (f_f_1.out.step hb2)
    clear hb2 B1 f_f_1
    clear f_0 f_1
    have f_0 := f_f_2.out.x0
    have f_1 := f_f_2.out.x1
    go_wp2_with fail
    refine (specFamilyIn_any m a1 c1 zs _ f_f_2.out.ints hln).mono ?_
    rw [HD.out]
    rintro e w3 ⟨rfl, hb3⟩
    have B3 := Lib.hid (B2.out.trans (hb3.mono B2.out.size))
    have f_f_3 := Lib.hid (f_f_2.out.step hb3)
    clear hb3 B2 f_f_2
    clear f_0 f_1
    have f_0 := f_f_3.out.x0
    have f_1 := f_f_3.out.x1
    go_wp2
    go_ret
    exact ⟨rfl, B3.out⟩
  · have HD := Lib.hid hd
    clear hd
    go_wp2_with fail
    refine (implFamilyIn_any m a1 c1 zs _ f_f_1.out.ints hln).mono ?_
    rw [HD.out]
    rintro e w2 ⟨rfl, hb2⟩
    have B2 := Lib.hid (B1.out.trans (hb2.mono B1.out.size))
    have f_f_2 := Lib.hid (f_f_1.out.step hb2)
    clear hb2 B1 f_f_1
    clear f_0 f_1
    have f_0 := f_f_2.out.x0
    have f_1 := f_f_2.out.x1
    go_wp2_with fail
    refine (specFamilyIn_any m a1 c1 zs _ f_f_2.out.ints hln).mono ?_
    rw [HD.out]
    rintro e w3 ⟨rfl, hb3⟩
    have B3 := Lib.hid (B2.out.trans (hb3.mono B2.out.size))
    have f_f_3 := Lib.hid (f_f_2.out.step hb3)
    clear hb3 B2 f_f_2
    clear f_0 f_1
    have f_0 := f_f_3.out.x0
    have f_1 := f_f_3.out.x1
    obtain ⟨ds, hds⟩ : ∃ ds, ds = famDeg m zs := ⟨_, rfl⟩
    obtain ⟨qs, hqs⟩ : ∃ qs, qs = sizesZ m zs := ⟨_, rfl⟩
    have HF : Hid (ds.sum = qs.sum ∧ (ds.length : Int) = m ∧ qs.length = zs.length ∧ (∀ z ∈ ds, 0 ≤ z ∧ z ≤ 1000) ∧ ∀ z ∈ qs, 0 ≤ z ∧ z ≤ 1000) := Lib.hid (by rw [hds, hqs]; exact family_facts HD.out)
    have hm6 : m ≤ 6 := (famIn_out HD.out).2.1
    have hl8 : zs.length ≤ 8 := (famIn_out HD.out).2.2.1
    have HDS := Lib.hid hds
    have HQS := Lib.hid hqs
    have hdl : ds.length ≤ 1000 := by have := HF.out.2.1; omega
    have hql : qs.length ≤ 1000 := by have := HF.out.2.2.1; omega
    clear hds hqs
    go_wp2_with fail
    refine (implDegrees_any m a1 c1 zs _ f_f_3.out.ints (HT.out.below B3.out HT.out.lt) hln).mono ?_
    rw [HD.out]
    rw [← HDS.out]
    rintro e w4 ⟨a4, c4, rfl, ho4, hb4⟩
    have G4 := Lib.hid (own_ints ho4)
    have B4 := Lib.hid (B3.out.trans (hb4.mono B3.out.size))
    have f_f_4 := Lib.hid (f_f_3.out.step hb4)
    clear ho4 hb4 B3 f_f_3
    clear f_0 f_1
    have f_0 := f_f_4.out.x0
    have f_1 := f_f_4.out.x1
    go_wp2_with fail
    refine (implSizes_any m a1 c1 zs _ f_f_4.out.ints hln).mono ?_
    rw [HD.out]
    rw [← HQS.out]
    rintro e w5 ⟨a5, c5, rfl, ho5, hb5⟩
    have G5 := Lib.hid (own_ints ho5)
    have B5 := Lib.hid (B4.out.trans (hb5.mono B4.out.size))
    have f_f_5 := Lib.hid (f_f_4.out.step hb5)
    have l_ld_5 := Lib.hid (G4.out.step hb5)
    clear ho5 hb5 B4 f_f_4 G4
    clear f_0 f_1
    obtain ⟨S, hS⟩ : ∃ S, S = qs.sum := ⟨_, rfl⟩
    have HS := Lib.hid hS
    clear hS
    go_wp2_with fail
    refine (total_any _ _ ds _ l_ld_5.out hdl HF.out.2.2.2.1).mono ?_
    rw [HF.out.1]
    rw [← HS.out]
    rintro e w6 ⟨rfl, hb6⟩
    have B6 := Lib.hid (B5.out.trans (hb6.mono B5.out.size))
    have f_f_6 := Lib.hid (f_f_5.out.step hb6)
    have l_ld_6 := Lib.hid (l_ld_5.out.step hb6)
    have l_lq_6 := Lib.hid (G5.out.step hb6)
    clear hb6 B5 f_f_5 l_ld_5 G5
    have hb1 : ((ds.length : Int) == m) = true := by rw [beq_iff_eq]; exact HF.out.2.1
    have hb2 : ((qs.length : Int) == (zs.length : Int)) = true := by rw [beq_iff_eq]; have := HF.out.2.2.1; omega
    go_wp2_with fail
    refine (total_any _ _ qs _ l_lq_6.out hql HF.out.2.2.2.2).mono ?_
    rw [← HS.out]
    rintro e w7 ⟨rfl, hb7⟩
    have B7 := Lib.hid (B6.out.trans (hb7.mono B6.out.size))
    have f_f_7 := Lib.hid (f_f_6.out.step hb7)
    have l_ld_7 := Lib.hid (l_ld_6.out.step hb7)
    have l_lq_7 := Lib.hid (l_lq_6.out.step hb7)
    clear hb7 B6 f_f_6 l_ld_6 l_lq_6
    have f_0 := f_f_7.out.x0
    have f_1 := f_f_7.out.x1
    go_wp2
    go_ret
    exact ⟨rfl, B7.out⟩

end Go.Proofs.YtgpgocijacgkhaaDoor
