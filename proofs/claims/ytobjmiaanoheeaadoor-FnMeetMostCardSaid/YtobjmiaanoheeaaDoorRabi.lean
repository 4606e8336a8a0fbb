/- It is proved what ColourProper of the program returns; conditions: those of each statement. -/
import Derived.RowKit
import Derived.Laws.CopyRow
import Derived.Lib.SlBuf
import Derived.Deep.QuietTactic
import Derived.RangeFuncNested
import Derived.RangeFuncBound
import Derived.RangeFuncCalls
import Derived.RangeFuncLeaves
import Derived.RangeFuncBox
import Derived.RangeFuncWrites
import Derived.StillTailTactics
import Derived.Maps.OwnIn
import Derived.Maps.Ext
import Derived.DeepKeys4
import Derived.MapKept
import Derived.Test.YtobjmiaanoheeaaDoorRows
import Derived.WalkKit
import Derived.WalkSpells
import Derived.ProofKit
import Derived.OpenShut
import Derived.ShutString
import Derived.ChangeOld
import Derived.Below
import Derived.Deep.RegionHeld3
import Derived.BigQuiet
import Derived.Lib.Hide
import Derived.Lib.SmallJoins
import Derived.Outline
import Derived.Laws.MakeOwn
import Derived.Laws.OwnMore
import Derived.IntWalk
import Derived.Maps.AppendAt
import Derived.Deep.RegionLaw
import Derived.Deep.AppendLies
import Derived.Lib.AppendZeros
import Derived.OwnWalk
import Derived.Lib.SlicesCompact
import Derived.Lib.OwnBridge
import Derived.OrdersIn
import Derived.TacticsIn
import Derived.Shelf.Sort.Plain
import Derived.Shelf.Slices.In.SortNone
import Derived.Shelf.Slices.CompactI
import Derived.Ground.Names2Prog
import Derived.Lib.SliceRun
import Derived.Shelf.Abstract
import Derived.Shelf.RegionOpen
import Derived.OwnWalkIn
import Derived.TacticsInMore
import Derived.LoopNIn
import Derived.LoopIn
import Derived.StillTail
import Derived.StillTactics
import Derived.Shelf.Spec.TrailingZeros
import Derived.Deep.LoopGhost
import Derived.Test.YtobjmiaanoheeaaDoorRabh
import Derived.Sort.MapsRangeIn
import Derived.Deep.RegionWith
import Derived.Test.YtobjmiaanoheeaaDoorKa
import Derived.Test.YtobjmiaanoheeaaDoorRaai
import Derived.Test.YtobjmiaanoheeaaDoorRaac
import Derived.Test.YtobjmiaanoheeaaDoorRaas
import Derived.Test.YtobjmiaanoheeaaDoorRaaa
import Derived.Test.YtobjmiaanoheeaaDoorRaab
import Derived.Test.YtobjmiaanoheeaaDoorRaae
namespace Go.Proofs.YtobjmiaanoheeaaDoor
open Go.RowKit Go.Shelf

attribute [local go_sem] Oper.semAt_some

def cntCP (m : Nat) (zs : List Int) (k : Nat) : Nat := (wordsL (palI k) m).countP (proB zs)
end Go.Proofs.YtobjmiaanoheeaaDoor

/- It is proved that the call of the law FnProper returns true; conditions: those of each statement. -/
namespace Go.Proofs.YtobjmiaanoheeaaDoor
open Go.RowKit

def mostI (ys : List Int) (i : Nat) : Int := (ys.take i).foldl max 0
theorem mostI_succ {ys : List Int} {i : Nat} (h : i < ys.length) : mostI ys (i + 1) = max (mostI ys i) (ys[i]?.getD 0) := by
  unfold mostI
  rw [List.take_succ_eq_append_getElem h, List.foldl_append]
  simp [h]

theorem fold_max : ∀ (l : List Int) (a : Int), a ≤ l.foldl max a ∧ (∀ y ∈ l, y ≤ l.foldl max a) ∧ (l.foldl max a = a ∨ l.foldl max a ∈ l)
  | [], a => ⟨Int.le_refl _, by simp, .inl rfl⟩
  | x :: l, a => by
    obtain ⟨h1, h2, h3⟩ := fold_max l (max a x)
    rw [List.foldl_cons]
    refine ⟨by omega, fun y hy => ?_, ?_⟩
    · rcases List.mem_cons.1 hy with rfl | h
      · omega
      · exact h2 y h
    · rcases h3 with h | h
      · rw [h]
        rcases Int.le_total a x with h4 | h4
        · right; rw [Int.max_eq_right h4]; simp
        · left; exact Int.max_eq_left h4
      · right; simp [h]

theorem mostI_big {ys : List Int} {q : Int} (hq : 0 ≤ q) (h : q < mostI ys ys.length) : ∃ y ∈ ys, q < y := by
  unfold mostI at h
  rw [List.take_length] at h
  rcases (fold_max ys 0).2.2 with e | e
  · omega
  · exact ⟨_, e, h⟩

theorem mostI_all {ys : List Int} : ∀ y ∈ ys, y ≤ mostI ys ys.length := fun y hy => by
  unfold mostI
  rw [List.take_length]
  exact (fold_max ys 0).2.1 y hy

theorem mostI_nn {ys : List Int} (i : Nat) : 0 ≤ mostI ys i := (fold_max _ 0).1
theorem mostI_le {ys : List Int} {b : Int} (hb : 0 ≤ b) (h : ∀ y ∈ ys, y ≤ b) (i : Nat) : mostI ys i ≤ b := by
  unfold mostI
  rcases (fold_max (ys.take i) 0).2.2 with e | e
  · rw [e]; exact hb
  · exact h _ (List.mem_of_mem_take e)

theorem proper_zero {m k : Nat} (hm : m ≤ 6) {zs : List Int} (hz : Sets m zs) {z : Int} (hzz : z ∈ zs) (hk : k < (mem z.toNat).length) : cntCP m zs k = 0 := by
  unfold cntCP
  rw [List.countP_eq_zero]
  intro c hc hp
  obtain ⟨hcl, hcm⟩ := (wordsL_mem _ _ _).1 hc
  have h1 := List.all_eq_true.1 hp z hzz
  unfold propZ at h1
  rw [decide_eq_true_eq, show (mem z.toNat).length = (colsZ c z).length from by simp [colsZ], kinds_all] at h1
  have hsub : ∀ x ∈ colsZ c z, x ∈ palI k := fun x hx => by
    obtain ⟨v, hv, rfl⟩ := List.mem_map.1 hx
    have hvm := mem_lt m hm _ (hz z hzz).2 v hv
    rw [List.getElem?_eq_getElem (by omega), Option.getD_some]
    exact hcm _ (List.getElem_mem _)
  have := h1.length_le_of_subset hsub
  rw [palI_len] at this
  simp [colsZ] at this
  omega

theorem proper_pos {m k : Nat} (hm : m ≤ 6) (hk1 : 1 ≤ k) {zs : List Int} (hz : Sets m zs) (hs : ∀ z ∈ zs, (mem z.toNat).length ≤ k) (hf : (redZ m zs).length ≤ 1) : 0 < cntCP m zs k := by
  obtain ⟨x, hx1, hx2⟩ := falls_prop hm hk1 hz hs hf
  unfold cntCP
  rw [List.countP_pos_iff]
  refine ⟨(List.range m).map fun v => ((x v : Nat) : Int), (wordsL_mem _ _ _).2 ⟨by simp, fun c hc => ?_⟩, ?_⟩
  · obtain ⟨v, -, rfl⟩ := List.mem_map.1 hc
    rw [palI_mem]
    have := hx1 v
    omega
  · unfold proB
    rw [List.all_eq_true]
    intro z hzz
    rw [propZ_iff]
    intro v hv w hw e
    have h64 := p64 hm (hz z hzz).2
    have hvm := mem_lt m hm _ (hz z hzz).2 v hv
    have hwm := mem_lt m hm _ (hz z hzz).2 w hw
    simp [hvm, hwm] at e
    exact hx2 z hzz v w ((mem_bt h64).1 hv) ((mem_bt h64).1 hw) (by omega)

end Go.Proofs.YtobjmiaanoheeaaDoor

/- It is proved what slices.Index, slices.Contains and slices.Max of ints return; conditions: those of each statement. -/
namespace Go.Proofs.YtobjmiaanoheeaaDoor
open Go.RowKit

/-- Where a number first stands in a list, or -1. -/
def IdxR (x : Int) (zs : List Int) (r : Int) : Prop := (r = -1 ∧ ∀ j, j < zs.length → zs[j]?.getD 0 ≠ x) ∨ ∃ k : Nat, r = (k : Int) ∧ k < zs.length ∧ zs[k]?.getD 0 = x ∧ ∀ j, j < k → zs[j]?.getD 0 ≠ x

theorem idx_any {zs : List Int} {r : Int} (h : IdxR 0 zs r) : decide (0 ≤ r) = zs.any fun z => z == 0 := by
  rcases h with ⟨rfl, h⟩ | ⟨k, rfl, hk, hz, -⟩
  · have : (zs.any fun z => z == 0) = false := List.any_eq_false.2 fun z hz => by
      obtain ⟨j, hj, rfl⟩ := List.getElem_of_mem hz
      have := h j hj
      rw [List.getElem?_eq_getElem hj] at this
      simpa using this
    rw [this]; rfl
  · have : (zs.any fun z => z == 0) = true := List.any_eq_true.2 ⟨zs[k], List.getElem_mem _, by
      rw [List.getElem?_eq_getElem hk] at hz
      simpa using hz⟩
    rw [this, decide_eq_true (by omega)]

/-- The greatest number of a list. -/
def MaxR (zs : List Int) (n : Nat) (M : Int) : Prop := (∀ j, j < n → zs[j]?.getD 0 ≤ M) ∧ ∃ j, j < n ∧ zs[j]?.getD 0 = M

set_option maxRecDepth 100000 in
set_option maxHeartbeats 1600000 in
theorem maxI_any (a : Option Addr) (c : Nat) (zs : List Int) (w : World) (ha : Ints w w.heap.size a zs) (h1 : 1 ≤ zs.length) (hx : zs.length ≤ 1048576) :
    Calls Tryd.prog 75 #[.slice a zs.length c] w fun e w' => (∃ M, e = .returned (.int .i64 M) ∧ MaxR zs zs.length M) ∧ w = w' := by
  obtain ⟨n, hn⟩ : ∃ n, n = zs.length := ⟨_, rfl⟩
  have HN := Lib.hid hn
  have HA := Lib.hid ha
  rw [← hn] at hx h1 ⊢
  obtain ⟨b0, o0, rfl, hb0, hc0⟩ := ha.at_ (k := 0) (by rw [← hn]; omega)
  obtain ⟨z0, hz0⟩ : ∃ z, z = zs[0]?.getD 0 := ⟨_, rfl⟩
  rw [← hz0] at hc0
  have HZ0 := Lib.hid hz0
  have hn1 : (1 : Int) ≤ (n : Int) := by omega
  rw [Nat.add_zero] at hc0
  clear ha hn hz0
  go_enter Tryd.func75, Tryd.ntmps75
  go_wp2
  go_loop [3, 4] (fun m i => ∃ (k : Nat) (M : Int), 1 ≤ k ∧ k ≤ n ∧ i = .int .i64 k ∧ m = .int .i64 M ∧ MaxR zs k M) (fun _ i => n - (intOf i).toNat)
  case atStart => exact ⟨1, z0, Nat.le_refl _, h1, rfl, rfl, fun j hj => by rw [show j = 0 by omega, ← HZ0.out]; exact Int.le_refl _, 0, by omega, HZ0.out.symm⟩
  case round =>
    obtain ⟨k, M, hk1, hk, rfl, rfl, he⟩ := hrel
    have HE := Lib.hid he
    clear he
    by_cases hlt : k < n
    · obtain ⟨b1, o1, e1, hb1, hc1⟩ := HA.out.at_ (k := k) (by rw [← HN.out]; exact hlt)
      obtain ⟨rfl, rfl⟩ : b1 = b0 ∧ o1 = o0 := by simpa using e1.symm
      obtain ⟨z, hz⟩ : ∃ z, z = zs[k]?.getD 0 := ⟨_, rfl⟩
      rw [← hz] at hc1
      have HZ := Lib.hid hz
      have hki : (k : Int) < (n : Int) := by omega
      have HP : Hid (MaxR zs (k + 1) (max M z)) := Lib.hid (by
        obtain ⟨g1, j, g2, g3⟩ := HE.out
        refine ⟨fun i hi => ?_, ?_⟩
        · by_cases e : i = k
          · subst e; rw [← HZ.out]; omega
          · have := g1 i (by omega); omega
        · by_cases e : M ≤ z
          · exact ⟨k, by omega, by rw [← HZ.out]; omega⟩
          · exact ⟨j, by omega, by omega⟩)
      clear hz e1
      go_wp2
      go_round
      case rel => exact ⟨k + 1, max M z, by omega, by omega, by go_num, rfl, HP.out⟩
      case measure => simp [intOf]; omega
    · obtain rfl : k = n := by omega
      go_wp2
      go_ret
      exact ⟨⟨_, rfl, HE.out⟩, rfl⟩

end Go.Proofs.YtobjmiaanoheeaaDoor
