/- It is proved what TableIs of the program returns; conditions: those of each statement. -/
import Derived.RowKit
import Derived.Laws.CopyRow
import Derived.Lib.SlBuf
import Derived.Deep.QuietTactic
import Derived.RangeFuncNested
import Derived.RangeFuncBound
import Derived.RangeFuncCalls
import Derived.RangeFuncLeaves
import Derived.RangeFuncBox
import Derived.RangeFuncWrites
import Derived.StillTailTactics
import Derived.Maps.OwnIn
import Derived.Maps.Ext
import Derived.DeepKeys4
import Derived.MapKept
import Derived.Test.YtbiggilheicfjaaDoorRows
import Derived.WalkKit
import Derived.WalkSpells
import Derived.ProofKit
import Derived.OpenShut
import Derived.ShutString
import Derived.ChangeOld
import Derived.Below
import Derived.Deep.RegionHeld3
import Derived.BigQuiet
import Derived.Lib.Hide
import Derived.Lib.SmallJoins
import Derived.Outline
import Derived.Laws.MakeOwn
import Derived.Laws.OwnMore
import Derived.IntWalk
import Derived.Maps.AppendAt
import Derived.Sort.MapsRangeIn
import Derived.Shelf.Slices.Reverse
import Derived.Lib.AppendZeros
import Derived.Deep.AppendLies
import Derived.OwnWalk
import Derived.Lib.SlicesCompact
import Derived.Lib.OwnBridge
import Derived.OrdersIn
import Derived.TacticsIn
import Derived.Shelf.Sort.Plain
import Derived.Shelf.Slices.In.SortNone
import Derived.Shelf.Slices.CompactI
import Derived.Ground.Names2Prog
import Derived.Shelf.Abstract
import Derived.Shelf.RegionOpen
import Derived.OwnWalkIn
import Derived.TacticsInMore
import Derived.LoopNIn
import Derived.LoopIn
import Derived.StillTail
import Derived.StillTactics
import Derived.Shelf.Spec.TrailingZeros
import Derived.Test.YtbiggilheicfjaaDoorMva
import Derived.Test.YtbiggilheicfjaaDoorEh
import Derived.Test.YtbiggilheicfjaaDoorHt
namespace Go.Proofs.YtbiggilheicfjaaDoor
open Go.RowKit

set_option maxRecDepth 100000 in
set_option maxHeartbeats 1600000 in
theorem implIs_no (a b : Option Addr) (c d : Nat) (ss zs : List Int) (w : World) (ha : Ints w w.heap.size a ss) (hb : Ints w w.heap.size b zs) (hx : ss.length ≤ 1048576) (hy : zs.length ≤ 1048576) (hf : tabIn ss zs = false) :
    Calls Tryd.prog 14 #[.slice a ss.length c, .slice b zs.length d] w fun e w' => e = .returned (.bool false) ∧ Below w.heap.size w w' := by
  have H := numbersIn_any a c ss w ha hx
  have H2 := degreesIn_any b d zs w hb hy
  cases hs : numIn ss
  · rw [hs] at H
    clear hf
    go_enter Tryd.func14, Tryd.ntmps14
    go_wp2_with fail
    refine H.mono ?_
    rintro e w1 ⟨rfl, rfl⟩
    go_wp2
    go_ret
    exact ⟨rfl, Below.refl _ _⟩
  · have hd : degIn zs = false := by rw [tabIn, hs] at hf; simpa using hf
    rw [hs] at H
    rw [hd] at H2
    clear hf
    go_enter Tryd.func14, Tryd.ntmps14
    go_wp2_with fail
    refine H.mono ?_
    rintro e w1 ⟨rfl, rfl⟩
    go_wp2_with fail
    refine H2.mono ?_
    rintro e w1 ⟨rfl, rfl⟩
    go_wp2
    go_ret
    exact ⟨rfl, Below.refl _ _⟩

set_option maxRecDepth 100000 in
set_option maxHeartbeats 4000000 in
theorem implIs_yes (a b : Option Addr) (c d : Nat) (ss zs : List Int) (w : World) (ha : Ints w w.heap.size a ss) (hb : Ints w w.heap.size b zs) (hx : ss.length ≤ 1048576) (hy : zs.length ≤ 1048576) (hf : tabIn ss zs = true) :
    Calls Tryd.prog 14 #[.slice a ss.length c, .slice b zs.length d] w fun e w' => e = .returned (.bool (isB ss zs)) ∧ Below w.heap.size w w' := by
  obtain ⟨hs, hd⟩ := tabIn_out hf
  have H := numbersIn_any a c ss w ha hx
  have H2 := degreesIn_any b d zs w hb hy
  rw [hs] at H
  rw [hd] at H2
  obtain ⟨hm5, hsz⟩ := numIn_out hs
  obtain ⟨hn1, hn5, hzz⟩ := degIn_out hd
  obtain ⟨gb, go', rfl, hbb, hbc⟩ := hb.at_ (k := 0) (by omega)
  have H3 := clone_any gb go' d zs.length zs rfl hy w hb
  obtain ⟨D, hD⟩ : ∃ D, D = descL zs := ⟨_, rfl⟩
  have hDl : D.length = zs.length := by rw [hD, desc_len]
  have hDz : ∀ z ∈ D, 0 ≤ z ∧ z ≤ 5 := fun z hz => hzz z (desc_mem (by rw [← hD]; exact hz))
  have HDl := Lib.hid hDl
  have HPB : Hid (∀ j, 0 ≤ preZ D j ∧ preZ D j ≤ 28) := Lib.hid (fun j => pre_bd hDz (by omega) j)
  have HDZ : Hid (∀ j : Nat, j < zs.length → 0 ≤ D[j]?.getD 0 ∧ D[j]?.getD 0 ≤ 5) := Lib.hid (fun j hj => by
    have hj' : j < D.length := by omega
    have := hDz D[j] (List.getElem_mem hj')
    simpa [hj'] using this)
  have HIS : Hid (isB ss zs = ((List.range (zs.length + 1)).all (fitZ ss D) && decide (preZ D zs.length = ss.sum))) := Lib.hid (by rw [isB, hD])
  have HFZ : Hid (fitZ ss D 0 = true) := Lib.hid (fit_zero ss D hsz)
  have HR5 : Hid (roomZ ss 5 = ss.sum) := Lib.hid (room_all ss hsz)
  have HRB : Hid (∀ (k : Int), 0 ≤ k → 0 ≤ roomZ ss k ∧ roomZ ss k ≤ 28) := Lib.hid (fun k hk => by have := room_bd hsz hm5 hk ss.length; rwa [List.take_length] at this)
  have HDD : Hid ((zs.mergeSort fun x y => decide (x ≤ y)).reverse = D) := Lib.hid (by rw [hD]; rfl)
  have HS := Lib.hid hs
  obtain ⟨n, hn⟩ : ∃ n, n = zs.length := ⟨_, rfl⟩
  have HN := Lib.hid hn
  have HM : Hid (∀ (k : Int) W, Below w.heap.size w W → 0 ≤ k → k ≤ 10 → Calls Tryd.prog 55 #[.slice a ss.length c, .int .i64 k] W fun e w' => e = .returned (.int .i64 (roomZ ss k)) ∧ W = w') := Lib.hid (fun k W hW h0 h5 => room_any a c ss W ((ha.below hW).mono hW.size) hs k h0 h5)
  rw [← hn] at H2 H3 hn5 hn1 ⊢
  clear ha hb hs hd hsz hzz hD hDl hDz hf hn hbb hbc
  go_enter Tryd.func14, Tryd.ntmps14
  go_wp2_with fail
  refine H.mono ?_
  rintro e w1 ⟨rfl, rfl⟩
  go_wp2_with fail
  refine H2.mono ?_
  rintro e w1 ⟨rfl, rfl⟩
  go_wp2_with fail
  refine H3.mono ?_
  rintro e w2 ⟨a', c', rfl, ho2, hb2⟩
  obtain ⟨g, rfl, hgB, -⟩ := ho2.addr (by omega)
  have HB2 := Lib.hid hb2
  clear H H2 H3 hb2
  go_wp2_with fail
  refine (sort_any _ n c' w.heap.size zs w2 ho2 (by omega)).mono ?_
  rintro e w3 ⟨rfl, ho3, hg3⟩
  have HB3 : Hid (Below w.heap.size w w3) := Lib.hid (HB2.out.grown hg3 HB2.out.size (fun j e => by simp [Value.ownBlock] at e; omega))
  clear ho2 hg3 HB2
  go_wp2_with fail
  refine (reverse_any g n c' w.heap.size _ w3 ho3 (by omega)).mono ?_
  rintro e w4 ⟨rfl, ho4, hg4⟩
  have HB4 : Hid (Below w.heap.size w w4) := Lib.hid (HB3.out.grown hg4 HB3.out.size (fun j e => by injection e with e; omega))
  rw [HDD.out] at ho4
  have HO := Lib.hid ho4
  clear ho3 hg4 HB3 ho4
  go_wp2
  go_loop [6, 25] (fun l j => ∃ k : Nat, k ≤ n ∧ j = .int .i64 (k : Int) ∧ l = .int .i64 (preZ D k) ∧ ∀ i, i < k + 1 → fitZ ss D i = true) (fun _ j => n - (intOf j).toNat)
  case atStart =>
    refine ⟨0, Nat.zero_le _, rfl, by simp [preZ], fun i hi => ?_⟩
    have h0 : i = 0 := by omega
    subst h0
    exact HFZ.out
  case round =>
    obtain ⟨j, hj, rfl, rfl, he⟩ := hrel
    have HE := Lib.hid he
    clear he
    obtain ⟨hp0, hp25⟩ := HPB.out j
    obtain ⟨p, hp⟩ : ∃ p, p = preZ D j := ⟨_, rfl⟩
    have HP := Lib.hid hp
    rw [← hp] at hp0 hp25 ⊢
    clear hp
    by_cases hlt : j < n
    · have hjn : (j : Int) < (n : Int) := by omega
      have hc := HO.out.cell (j := j) hlt
      obtain ⟨hd0, hd5⟩ := HDZ.out j (by rw [← HN.out]; exact hlt)
      obtain ⟨z, hz⟩ : ∃ z, z = D[j]?.getD 0 := ⟨_, rfl⟩
      rw [← hz] at hc hd0 hd5
      have HPS : Hid (preZ D (j + 1) = p + z) := Lib.hid (by rw [pre_succ D j (by rw [HDl.out, ← HN.out]; exact hlt), ← HP.out, ← hz])
      clear hz
      go_wp2_with fail
      refine (HM.out _ _ HB4.out (by omega) (by omega)).mono ?_
      rintro e w5 ⟨rfl, rfl⟩
      obtain ⟨r, hr⟩ : ∃ r, r = roomZ ss ((j : Int) + 1) := ⟨_, rfl⟩
      rw [← hr]
      by_cases hgt : r < p + z
      · have HF : Hid (isB ss zs = false) := Lib.hid (by
          rw [HIS.out, all_range_no (k := j + 1) (by have := HN.out; omega) (by rw [fitZ, HPS.out, show (((j + 1 : Nat)) : Int) = (j : Int) + 1 from by omega, ← hr, decide_eq_false_iff_not]; omega)]
          rfl)
        clear hr
        go_wp2
        go_ret
        exact ⟨by rw [HF.out]; rfl, HB4.out⟩
      · have hle : p + z ≤ r := by omega
        have HE2 : Hid (∀ i, i < j + 1 + 1 → fitZ ss D i = true) := Lib.hid (fun i hi => by
          rcases Nat.lt_succ_iff_lt_or_eq.1 hi with h | rfl
          · exact HE.out i h
          · rw [fitZ, HPS.out, show (((j + 1 : Nat)) : Int) = (j : Int) + 1 from by omega, ← hr, decide_eq_true_iff]; exact hle)
        clear hr
        go_wp2
        go_round
        case rel => exact ⟨j + 1, by omega, by go_num, by rw [HPS.out], HE2.out⟩
        case measure => simp [intOf]; omega
    · obtain rfl : j = n := by omega
      have HAL : Hid ((List.range (zs.length + 1)).all (fitZ ss D) = true) := Lib.hid (all_range (by rw [← HN.out]; exact HE.out))
      go_wp2_with fail
      refine (HM.out _ _ HB4.out (by omega) (by omega)).mono ?_
      rintro e w5 ⟨rfl, rfl⟩
      obtain ⟨r, hr⟩ : ∃ r, r = roomZ ss 5 := ⟨_, rfl⟩
      rw [← hr]
      have HRA : Hid (r = ss.sum) := Lib.hid (by rw [hr, HR5.out])
      clear hr
      by_cases heq : p = r
      · have HF : Hid (isB ss zs = true) := Lib.hid (by
          rw [HIS.out, HAL.out, ← HN.out, ← HP.out, ← HRA.out, heq]; simp)
        subst heq
        go_wp2
        go_ret
        exact ⟨by rw [HF.out]; rfl, HB4.out⟩
      · have HF : Hid (isB ss zs = false) := Lib.hid (by
          rw [HIS.out, HAL.out, ← HN.out, ← HP.out, ← HRA.out, decide_eq_false heq]; rfl)
        have hbe : (p == r) = false := by simp [heq]
        go_wp2
        go_ret
        exact ⟨by rw [HF.out]; first | rfl | simp [heq], HB4.out⟩

theorem implIs_any (a b : Option Addr) (c d : Nat) (ss zs : List Int) (w : World) (ha : Ints w w.heap.size a ss) (hb : Ints w w.heap.size b zs) (hx : ss.length ≤ 1048576) (hy : zs.length ≤ 1048576) :
    Calls Tryd.prog 14 #[.slice a ss.length c, .slice b zs.length d] w fun e w' => e = .returned (.bool (tabIs ss zs)) ∧ Below w.heap.size w w' := by
  unfold tabIs
  cases h : tabIn ss zs
  · exact implIs_no a b c d ss zs w ha hb hx hy h
  · rw [Bool.true_and]
    exact implIs_yes a b c d ss zs w ha hb hx hy h

end Go.Proofs.YtbiggilheicfjaaDoor
