/- It is proved what MeetStars of the program and of the model return; conditions: those of each statement. -/
import Derived.RowKit
import Derived.Laws.CopyRow
import Derived.Lib.SlBuf
import Derived.Deep.QuietTactic
import Derived.RangeFuncNested
import Derived.RangeFuncBound
import Derived.RangeFuncCalls
import Derived.RangeFuncLeaves
import Derived.RangeFuncBox
import Derived.RangeFuncWrites
import Derived.StillTailTactics
import Derived.Maps.OwnIn
import Derived.Maps.Ext
import Derived.DeepKeys4
import Derived.MapKept
import Derived.Test.YtgjcjllhkkkioaaDoorRows
import Derived.WalkKit
import Derived.WalkSpells
import Derived.ProofKit
import Derived.OpenShut
import Derived.ShutString
import Derived.ChangeOld
import Derived.Below
import Derived.Deep.RegionHeld3
import Derived.BigQuiet
import Derived.Lib.Hide
import Derived.Lib.SmallJoins
import Derived.Outline
import Derived.Laws.MakeOwn
import Derived.Laws.OwnMore
import Derived.IntWalk
import Derived.Maps.AppendAt
import Derived.Sort.MapsRangeIn
import Derived.Deep.RegionLaw
import Derived.Deep.AppendLies
import Derived.Deep.RegionWith
import Derived.Lib.AppendZeros
import Derived.OwnWalk
import Derived.Lib.SlicesCompact
import Derived.Lib.OwnBridge
import Derived.OrdersIn
import Derived.TacticsIn
import Derived.Shelf.Sort.Plain
import Derived.Shelf.Slices.In.SortNone
import Derived.Shelf.Slices.CompactI
import Derived.Ground.Names2Prog
import Derived.Lib.SliceRun
import Derived.Shelf.RegionOpen
import Derived.Shelf.Abstract
import Derived.OwnWalkIn
import Derived.TacticsInMore
import Derived.LoopNIn
import Derived.LoopIn
import Derived.StillTail
import Derived.StillTactics
import Derived.Shelf.Spec.TrailingZeros
import Derived.Deep.LoopGhost
import Derived.Test.YtgjcjllhkkkioaaDoorRaaa
import Derived.Test.YtgjcjllhkkkioaaDoorRaab
import Derived.Test.YtgjcjllhkkkioaaDoorRaac
import Derived.Test.YtgjcjllhkkkioaaDoorRaaf
import Derived.Test.YtgjcjllhkkkioaaDoorJkc
import Derived.Test.YtgjcjllhkkkioaaDoorLo
import Derived.Test.YtgjcjllhkkkioaaDoorRaax
import Derived.Test.YtgjcjllhkkkioaaDoorRaad
import Derived.Test.YtgjcjllhkkkioaaDoorRaae
import Derived.Test.YtgjcjllhkkkioaaDoorRaaj
import Derived.Test.YtgjcjllhkkkioaaDoorTd
namespace Go.Proofs.YtgjcjllhkkkioaaDoor
open Go.RowKit Go.Shelf

def starZ (m : Int) (zs : List Int) : Int := mostI (famDeg m zs) (famDeg m zs).length
theorem famDeg_nn {m : Int} {zs : List Int} : ∀ y ∈ famDeg m zs, 0 ≤ y := fun y hy => by
  unfold famDeg at hy
  split at hy
  · unfold degL at hy
    obtain ⟨v, _, rfl⟩ := List.mem_map.1 hy
    omega
  · simp at hy

theorem maxR_most {zs : List Int} {M : Int} (h : MaxR zs zs.length M) (hn : ∀ y ∈ zs, 0 ≤ y) : M = mostI zs zs.length := by
  obtain ⟨h1, j, hj, h2⟩ := h
  have hjm : zs[j]?.getD 0 ∈ zs := by rw [List.getElem?_eq_getElem hj, Option.getD_some]; exact List.getElem_mem hj
  have a1 : M ≤ mostI zs zs.length := by rw [← h2]; exact mostI_all _ hjm
  have a2 : mostI zs zs.length ≤ M := mostI_le (by rw [← h2]; exact hn _ hjm) (fun y hy => by
    obtain ⟨i, hi, rfl⟩ := List.mem_iff_getElem.1 hy
    have := h1 i hi
    rwa [List.getElem?_eq_getElem hi, Option.getD_some] at this) _
  omega

theorem famDeg_len1 {m : Int} {zs : List Int} (h : famIn m zs = true) : (famDeg m zs).length = m.toNat := by
  unfold famDeg; rw [h]; exact degL_length _ _

set_option maxRecDepth 100000 in
set_option maxHeartbeats 2000000 in
theorem implStars_any (m : Int) (a : Option Addr) (c : Nat) (zs : List Int) (w : World) (ha : Ints w w.heap.size a zs) (hT : Tab w) (hx : zs.length ≤ 1048576) :
    Calls Tryd.prog 31 #[.agg #[.int .i64 m, .slice a zs.length c]] w (RetIB w (starZ m zs) (famIn m zs)) := by
  have F1 := FB.start (m := m) (c := c) ha
  have HB0 := Lib.hid (below1 w (.cells #[.int .i64 m, .slice a zs.length c] 26))
  have HD := Lib.hid (implDegrees_any m a c zs _ F1.ints (hT.step HB0.out) hx)
  have f_0 := F1.x0
  have f_1 := F1.x1
  clear F1 ha hT
  cases hf : famIn m zs
  · have HR : Hid (starZ m zs = 0) := Lib.hid (by unfold starZ famDeg; rw [hf]; rfl)
    have HF := Lib.hid hf
    clear hf
    go_enter Tryd.func31, Tryd.ntmps31
    go_wp2_with fail
    refine HD.out.mono ?_
    rintro e w2 ⟨a2, c2, rfl, -, hb2⟩
    rw [HF.out]
    have HB2 := Lib.hid (HB0.out.trans (hb2.mono (by simp)))
    clear hb2 f_0 f_1
    go_wp2
    go_ret2
    exact ⟨by rw [HR.out]; rfl, HB2.out⟩
  · have HF := Lib.hid hf
    obtain ⟨hm1, hm6, -, -⟩ := famIn_out hf
    have hL := famDeg_len1 hf
    obtain ⟨L, hLL⟩ : ∃ L, L = (famDeg m zs).length := ⟨_, rfl⟩
    have HL := Lib.hid hLL
    have hL1 : 1 ≤ (famDeg m zs).length := by omega
    have hL2 : (famDeg m zs).length ≤ 1048576 := by omega
    clear hf hL
    go_enter Tryd.func31, Tryd.ntmps31
    go_wp2_with fail
    refine HD.out.mono ?_
    rintro e w2 ⟨a2, c2, rfl, ho2, hb2⟩
    rw [HF.out]
    have HB2 := Lib.hid (HB0.out.trans (hb2.mono (by simp)))
    have HM := Lib.hid (maxI_any a2 c2 (famDeg m zs) w2 (own_ints ho2) hL1 hL2)
    rw [← HL.out] at HM ⊢
    clear hb2 f_0 f_1 ho2 hLL hL1 hL2
    go_wp2_with fail
    refine HM.out.mono ?_
    rintro e w3 ⟨⟨M, rfl, hM⟩, rfl⟩
    have HMM : Hid (M = starZ m zs) := Lib.hid (by rw [HL.out] at hM; exact maxR_most hM famDeg_nn)
    clear hM
    go_wp2
    go_ret2
    exact ⟨by rw [← HMM.out]; rfl, HB2.out⟩

set_option maxRecDepth 100000 in
set_option maxHeartbeats 2000000 in
theorem specStars_any (m : Int) (a : Option Addr) (c : Nat) (zs : List Int) (w : World) (ha : Ints w w.heap.size a zs) (hx : zs.length ≤ 1048576) :
    Calls Tryd.prog 30 #[.agg #[.int .i64 m, .slice a zs.length c]] w (RetIB w (starZ m zs) (famIn m zs)) := by
  have F1 := FB.start (m := m) (c := c) ha
  have HB0 := Lib.hid (below1 w (.cells #[.int .i64 m, .slice a zs.length c] 26))
  have HF1 := Lib.hid F1
  have HFI := Lib.hid (specFamilyIn_any m a c zs _ F1.ints hx)
  have f_0 := F1.x0
  have f_1 := F1.x1
  clear F1 ha
  cases hf : famIn m zs
  · have HR : Hid (starZ m zs = 0) := Lib.hid (by unfold starZ famDeg; rw [hf]; rfl)
    have HF := Lib.hid hf
    clear hf
    go_enter Tryd.func30, Tryd.ntmps30
    go_wp2_with fail
    refine HFI.out.mono ?_
    rintro e w2 ⟨rfl, hb2⟩
    rw [HF.out]
    have HB2 := Lib.hid (HB0.out.trans (hb2.mono (by simp)))
    clear hb2 f_0 f_1
    go_wp2
    go_ret2
    exact ⟨by rw [HR.out]; rfl, HB2.out⟩
  · have HF := Lib.hid hf
    obtain ⟨hm1, hm6, -, -⟩ := famIn_out hf
    obtain ⟨k, rfl⟩ : ∃ k : Nat, m = (k : Int) := ⟨m.toNat, by omega⟩
    have HDG : Hid (famDeg (k : Int) zs = degL k (allMem zs)) := Lib.hid (by unfold famDeg; rw [hf, Int.toNat_natCast]; rfl)
    have HLD : Hid ((degL k (allMem zs)).length = k) := Lib.hid (degL_length _ _)
    have HST : Hid (starZ (k : Int) zs = mostI (degL k (allMem zs)) k) := Lib.hid (by unfold starZ; rw [HDG.out, HLD.out])
    have HDD : Hid (∀ W, Ints W W.heap.size a zs → Calls Tryd.prog 58 #[.agg #[.int .i64 (k : Int), .slice a zs.length c]] W (RetInts W (degL k (allMem zs)))) := Lib.hid fun W h => l1Degrees_any k a c zs W h hf
    clear hf
    go_enter Tryd.func30, Tryd.ntmps30
    go_wp2_with fail
    refine HFI.out.mono ?_
    rintro e w2 ⟨rfl, hb2⟩
    rw [HF.out]
    have HF2 := Lib.hid (HF1.out.step hb2)
    have HB2 := Lib.hid (HB0.out.trans (hb2.mono (by simp)))
    have HC := Lib.hid (HDD.out w2 HF2.out.ints)
    clear hb2 f_0 f_1
    have f_0 := HF2.out.x0
    have f_1 := HF2.out.x1
    obtain ⟨D, hD⟩ : ∃ D, D = degL k (allMem zs) := ⟨_, rfl⟩
    rw [← hD] at HC HLD HST
    clear hD
    go_wp2_with fail
    refine HC.out.mono ?_
    rintro e w3 ⟨a3, c3, rfl, ho3, hb3⟩
    have HI3 := Lib.hid (own_ints ho3)
    have HB3 := Lib.hid (HB2.out.trans (hb3.mono HB2.out.size))
    rw [HLD.out]
    clear hb3 ho3 f_0 f_1
    go_wp2
    go_loop [4, 6] (fun s i => ∃ j : Nat, j ≤ k ∧ i = .int .i64 (j : Int) ∧ s = .int .i64 (mostI D j)) (fun _ i => k - (intOf i).toNat)
    case atStart => exact ⟨0, Nat.zero_le _, rfl, rfl⟩
    case round =>
      obtain ⟨j, hj, rfl, rfl⟩ := hrel
      by_cases hlt : j < k
      · have hji : (j : Int) < (k : Int) := by omega
        have hj0 : (0 : Int) ≤ (j : Int) := by omega
        obtain ⟨b, off, rfl, hbb, hcc⟩ := HI3.out.at_ (k := j) (by rw [HLD.out]; exact hlt)
        have HSU := Lib.hid (mostI_succ (ys := D) (i := j) (by rw [HLD.out]; exact hlt))
        obtain ⟨z, hz⟩ : ∃ z, z = D[j]?.getD 0 := ⟨_, rfl⟩
        rw [← hz] at hcc HSU
        obtain ⟨M, hM⟩ : ∃ M, M = mostI D j := ⟨_, rfl⟩
        rw [← hM] at HSU ⊢
        clear hz hM
        go_wp2
        go_round
        case rel => exact ⟨j + 1, by omega, by go_num, by rw [HSU.out]⟩
        case measure => simp [intOf]; omega
      · obtain rfl : j = k := by omega
        go_wp2
        go_ret2
        exact ⟨by rw [HST.out]; rfl, HB3.out⟩

end Go.Proofs.YtgjcjllhkkkioaaDoor
