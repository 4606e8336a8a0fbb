/- It is proved what l6ePairs and MeetPairs of the model return; conditions: those of each statement. -/
import Derived.StillTailTactics
import Derived.RowKit
import Derived.Laws.CopyRow
import Derived.Lib.SlBuf
import Derived.Deep.QuietTactic
import Derived.RangeFuncNested
import Derived.RangeFuncBound
import Derived.RangeFuncCalls
import Derived.RangeFuncLeaves
import Derived.RangeFuncBox
import Derived.RangeFuncWrites
import Derived.Maps.OwnIn
import Derived.Maps.Ext
import Derived.DeepKeys4
import Derived.MapKept
import Derived.Test.YtobjmiaanoheeaaDoorRows
import Derived.WalkKit
import Derived.WalkSpells
import Derived.ProofKit
import Derived.OpenShut
import Derived.ShutString
import Derived.ChangeOld
import Derived.Below
import Derived.Deep.RegionHeld3
import Derived.BigQuiet
import Derived.Lib.Hide
import Derived.Lib.SmallJoins
import Derived.Outline
import Derived.Laws.MakeOwn
import Derived.Laws.OwnMore
import Derived.IntWalk
import Derived.Deep.RegionLaw
import Derived.Deep.AppendLies
import Derived.Lib.AppendZeros
import Derived.Maps.AppendAt
import Derived.OwnWalk
import Derived.Lib.SlicesCompact
import Derived.Lib.OwnBridge
import Derived.OrdersIn
import Derived.TacticsIn
import Derived.Shelf.Sort.Plain
import Derived.Shelf.Slices.In.SortNone
import Derived.Shelf.Slices.CompactI
import Derived.Ground.Names2Prog
import Derived.Lib.SliceRun
import Derived.Laws.BitsAllLaws
import Derived.Shelf.Abstract
import Derived.Shelf.RegionOpen
import Derived.OwnWalkIn
import Derived.TacticsInMore
import Derived.LoopNIn
import Derived.LoopIn
import Derived.StillTail
import Derived.StillTactics
import Derived.Shelf.Spec.TrailingZeros
import Derived.Deep.LoopGhost
import Derived.Test.YtobjmiaanoheeaaDoorRaaa
import Derived.Test.YtobjmiaanoheeaaDoorRaab
import Derived.Test.YtobjmiaanoheeaaDoorRaam
import Derived.Test.YtobjmiaanoheeaaDoorRaay
import Derived.Test.YtobjmiaanoheeaaDoorRaae
import Derived.Test.YtobjmiaanoheeaaDoorRaas
import Derived.Test.YtobjmiaanoheeaaDoorIb
import Derived.Test.YtobjmiaanoheeaaDoorRaaz
import Derived.Test.YtobjmiaanoheeaaDoorKa
import Derived.Test.YtobjmiaanoheeaaDoorRaai
import Derived.Test.YtobjmiaanoheeaaDoorRaap
import Derived.Test.YtobjmiaanoheeaaDoorRaac
import Derived.Test.YtobjmiaanoheeaaDoorRabb
import Derived.Test.YtobjmiaanoheeaaDoorYa
namespace Go.Proofs.YtobjmiaanoheeaaDoor
open Go.RowKit Go.Shelf

theorem an_or (a b c : Nat) : anN (a ||| b) c = anN a c ||| anN b c := by unfold anN; rw [Nat.and_or_distrib_right]
/-- The pairs while a club is told: the first j members are through. -/
def midL (zs : List Int) (m i j : Nat) : List Int := (List.range m).map fun v => ((anN (arN v (zs.take (if v < j then i + 1 else i))) (2 ^ v) : Nat) : Int)

theorem midL_len (zs : List Int) (m i j : Nat) : (midL zs m i j).length = m := by simp [midL]
theorem midL_zero (zs : List Int) (m i : Nat) : midL zs m i 0 = mateTo (zs.take i) m := by simp [midL, mateTo]
theorem midL_full (zs : List Int) (m i : Nat) : midL zs m i m = mateTo (zs.take (i + 1)) m := by
  unfold midL mateTo
  apply List.map_congr_left
  intro v hv
  rw [if_pos (List.mem_range.1 hv)]

theorem midL_at (zs : List Int) (m i j : Nat) (h : j < m) : (midL zs m i j)[j]? = some ((anN (arN j (zs.take i)) (2 ^ j) : Nat) : Int) := by simp [midL, h]
theorem midL_no {zs : List Int} {m i j : Nat} (hi : i < zs.length) (hb : Bt j (zs[i]?.getD 0) = false) : midL zs m i (j + 1) = midL zs m i j := by
  unfold midL
  apply List.map_congr_left
  intro v _
  by_cases h : v = j
  · subst h
    rw [if_pos (by omega), if_neg (by omega), arN_take hi, hb]
    simp
  · by_cases h2 : v < j
    · rw [if_pos (by omega), if_pos h2]
    · rw [if_neg (by omega), if_neg h2]

theorem midL_yes {zs : List Int} {m i j : Nat} (hi : i < zs.length) (hb : Bt j (zs[i]?.getD 0) = true) : midL zs m i (j + 1) = (midL zs m i j).set j ((anN (arN j (zs.take i)) (2 ^ j) ||| anN (zs[i]?.getD 0 : Int).toNat (2 ^ j) : Nat) : Int) := by
  apply List.ext_getElem
  · simp [midL]
  · intro v h1 h2
    have hv : v < m := by simpa [midL] using h1
    simp only [midL, List.getElem_map, List.getElem_range, List.getElem_set]
    by_cases h : j = v
    · subst h
      rw [if_pos (by omega), if_pos rfl, arN_take hi, hb, if_pos rfl, an_or]
    · rw [if_neg h]
      by_cases h2 : v < j
      · rw [if_pos (by omega), if_pos h2]
      · rw [if_neg (by omega), if_neg h2]

theorem mateTo_nil (m : Nat) : mateTo [] m = List.replicate m 0 := by
  apply List.ext_getElem
  · simp [mateTo]
  · intro i h1 h2; simp [mateTo, arN, anN]

set_option maxRecDepth 100000 in
set_option maxHeartbeats 4000000 in
theorem l6ePairs8_any (m : Nat) (hm6 : m ≤ 6) (a : Option Addr) (c : Nat) (zs : List Int) (w : World) (ha : Ints w w.heap.size a zs) (h8 : zs.length ≤ 8) (hS : Sets m zs) :
    Calls Tryd.prog 50 #[.agg #[.int .i64 (m : Int), .slice a zs.length c]] w (RetInts w (mateTo zs m)) := by
  obtain ⟨i0, hi0, hz0, hz1, hz2⟩ := info_parts Tryd.info3
  have HI := Lib.hid ha
  have HSET := Lib.hid hS
  have HAL : Hid (∀ v i, arN v (zs.take i) < 64) := Lib.hid fun v i => p64 hm6 (arN_lt (take_sets hS i))
  obtain ⟨n, hn⟩ : ∃ n, n = zs.length := ⟨_, rfl⟩
  have HN := Lib.hid hn
  rw [← hn] at h8 ⊢
  have F1 : FB w.heap.size (m : Int) a zs c (w.alloc (.cells #[.int .i64 (m : Int), .slice a zs.length c] 25)) := FB.start ha
  have HF1 := Lib.hid F1
  have f_0 := F1.x0
  have f_1 := F1.x1
  rw [← hn] at f_0 f_1 HF1
  have HB0 := Lib.hid (below1 w (.cells #[.int .i64 (m : Int), .slice a n c] 25))
  clear ha hS hn F1
  go_enter Tryd.func50, Tryd.ntmps50
  go_wp2_with (refine wpList_make_full _ rfl _ _ 23 rfl (w.heap.size + 1) 3 i0 _ 1 Tryd.underlying23 hi0 hz0 hz1 .i64 .i64 _ _ m rfl rfl rfl rfl (by rw [hz2]; omega) (by simp only [maxLen]; omega) (by simp) ?_; intro w1 hown hg)
  have HB1 : Hid (Below (w.heap.size + 1) (w.alloc (.cells #[.int .i64 (m : Int), .slice a n c] 25)) w1) := Lib.hid ((Below.refl _ _).grown hg (by simp) (by simp))
  have HG1 : Hid (w.heap.size + 1 < w1.heap.size) := Lib.hid (by have := (World.ownsRow.lt hown _ rfl).2; simpa using this)
  have HO1 : Hid (OwnN w1 (w.heap.size + 1) (some ⟨w.heap.size + 1, 0, none⟩) m m (mateTo (zs.take 0) m)) := Lib.hid (by
    rw [List.take_zero, mateTo_nil]
    have h1 := hown
    rw [show (Value.int .i64 0).cells = #[Value.int .i64 0] from rfl, toList_madeCells_one] at h1
    unfold OwnN
    simpa using h1)
  clear hown hg f_0 f_1
  go_wp2
  go_loopw [4] (fun i wr => ∃ k : Nat, k ≤ n ∧ i = .int .i64 (k : Int) ∧ OwnN wr (w.heap.size + 1) (some ⟨w.heap.size + 1, 0, none⟩) m m (mateTo (zs.take k) m) ∧ Below (w.heap.size + 1) w1 wr) (fun i _ => n - (intOf i).toNat)
  case atStart => exact ⟨0, Nat.zero_le _, rfl, HO1.out, Below.refl _ _⟩
  case round =>
    obtain ⟨k, hk, rfl, ho, hb⟩ := hrel
    obtain ⟨wo, hwo⟩ : ∃ wo, wo = wr := ⟨wr, rfl⟩
    subst hwo
    have HFB : Hid (∀ W, Below (w.heap.size + 1) w1 W → FB w.heap.size (m : Int) a zs c W) := Lib.hid fun W hW => by
      have h1 : Below (w.heap.size + 1) (w.alloc (.cells #[.int .i64 (m : Int), .slice a n c] 25)) W := HB1.out.trans hW
      refine FB.step (by rw [← HN.out] at *; exact HF1.out) ?_
      rw [World.size_alloc]
      exact h1
    have HFo := Lib.hid (HFB.out _ hb)
    have x0 := HFo.out.x0
    have x1 := HFo.out.x1
    rw [← HN.out] at x1
    have HO := Lib.hid ho
    have HBo := Lib.hid hb
    clear ho hb
    by_cases hlt : k < n
    · have hkn : k < zs.length := by rw [← HN.out]; exact hlt
      have hzm := HSET.out _ (getD_mem hkn)
      obtain ⟨s, hs⟩ : ∃ s : Nat, zs[k]?.getD 0 = (s : Int) := ⟨(zs[k]?.getD 0).toNat, by have := hzm.1; omega⟩
      have hs64 : s < 64 := by have := p64 hm6 hzm.2; rw [hs, Int.toNat_natCast] at this; exact this
      obtain ⟨b1, o1, rfl, hb1, hc1⟩ := HI.out.at_ (k := k) hkn
      rw [hs] at hc1
      have HC1 := Lib.hid hc1
      have HS := Lib.hid hs
      have HKN := Lib.hid hkn
      have HO2 : Hid (OwnN wo (w.heap.size + 1) (some ⟨w.heap.size + 1, 0, none⟩) m m (midL zs m k 0)) := Lib.hid (by rw [midL_zero]; exact HO.out)
      have hkI : (k : Int) < (n : Int) := by omega
      have hk0 : (0 : Int) ≤ (k : Int) := by omega
      clear hc1 hs hzm hkn
      go_wp2
      go_loopw [5] (fun i wr => ∃ v : Nat, v ≤ m ∧ i = .int .i64 (v : Int) ∧ OwnN wr (w.heap.size + 1) (some ⟨w.heap.size + 1, 0, none⟩) m m (midL zs m k v) ∧ Below (w.heap.size + 1) w1 wr) (fun i _ => m - (intOf i).toNat)
      case atStart => exact ⟨0, Nat.zero_le _, rfl, HO2.out, HBo.out⟩
      case round =>
        obtain ⟨v, hv, rfl, ho, hb⟩ := hrel
        have HFr := Lib.hid (HFB.out _ hb)
        have y0 := HFr.out.x0
        have y1 := HFr.out.x1
        rw [← HN.out] at y1
        by_cases hvm : v < m
        · have hb1' : b1 < w.heap.size + 1 := by omega
          have y2 : wr.cell? ⟨b1, o1 + k, none⟩ = some (.int .i64 (s : Int)) := (hb.cell (p := ⟨b1, o1 + k, none⟩) hb1').trans ((HB1.out.cell (p := ⟨b1, o1 + k, none⟩) hb1').trans ((HB0.out.cell (p := ⟨b1, o1 + k, none⟩) hb1).trans HC1.out))
          obtain ⟨d, hd⟩ : ∃ d, d = anN (arN v (zs.take k)) (2 ^ v) := ⟨_, rfl⟩
          have hd64 : d < 64 := by rw [hd]; exact Nat.lt_of_le_of_lt (anN_le _ _) (HAL.out v k)
          have y3 : wr.cell? ⟨w.heap.size + 1, v, none⟩ = some (.int .i64 (d : Int)) := by
            rw [World.ownsRow.cellAt ho v (by simp; omega), List.getElem?_map, midL_at _ _ _ _ hvm, hd]; rfl
          have hfz := World.ownsRow.frozenAt ho v
          have HS3 := Lib.hid (fun x => (World.ownsRow.stored ho v x).1)
          have HB3 := Lib.hid hb
          have HOr := Lib.hid ho
          have hbt : bits BinOp.and IntKind.i64 ((s : Int) / 2 ^ v) 1 = if s.testBit v then 1 else 0 := by rw [bit_at s v hs64 (by omega), bit_if s hs64 v (by omega)]; split <;> rfl
          have hv0 : (0 : Int) ≤ (v : Int) := by omega
          have hvI : (v : Int) < (m : Int) := by omega
          cases hp : s.testBit v
          · have HNO : Hid (midL zs m k (v + 1) = midL zs m k v) := Lib.hid (midL_no HKN.out (by unfold Bt; rw [HS.out, Int.toNat_natCast]; exact hp))
            rw [hp] at hbt
            simp only [Bool.false_eq_true, if_false] at hbt
            clear ho hb hd hp hfz y3
            go_wp2
            go_roundw
            case rel => exact ⟨v + 1, by omega, by go_num, by rw [HNO.out]; exact HOr.out, HB3.out⟩
            case measure => simp [intOf]; omega
          · obtain ⟨x, hx⟩ : ∃ x, x = anN s (2 ^ v) := ⟨_, rfl⟩
            have hx64 : x < 64 := by rw [hx]; exact Nat.lt_of_le_of_lt (anN_le _ _) hs64
            have HYES : Hid (midL zs m k (v + 1) = (midL zs m k v).set v ((d ||| x : Nat) : Int)) := Lib.hid (by rw [midL_yes HKN.out (by unfold Bt; rw [HS.out, Int.toNat_natCast]; exact hp), HS.out, Int.toNat_natCast, hd, hx])
            rw [hp] at hbt
            simp only [if_true] at hbt
            have hp2 := p2_small v (by omega)
            have hpw : IntKind.i64.wrap ((2 : Int) ^ v) = (2 : Int) ^ v := by rw [IntKind.wrap_i64]; omega
            have han : bits BinOp.andNot IntKind.i64 (s : Int) (2 ^ v) = (x : Int) := by rw [wo8_at (by omega) (by omega), hx]
            have hor : bits BinOp.or IntKind.i64 (d : Int) (x : Int) = ((d ||| x : Nat) : Int) := or_at8 (by omega) (by omega)
            have hv64 : (v : Int) < 64 := by omega
            clear ho hb hd hp hx
            go_wp2
            go_still_tail 16, (by kernel_rfl)
            repeat still_step
            try refine wpStill_nil ?_
            change wpList _ _ _ _ _ wr.drew
            go_wp2
            go_roundw
            case rel => exact ⟨v + 1, by omega, by go_num, by rw [HYES.out]; have h1 := HS3.out (.int .i64 ((d ||| x : Nat) : Int)); rw [← List.map_set] at h1; exact h1, (HB3.out.drew).setCell (p := ⟨w.heap.size + 1, v, none⟩) (Nat.le_refl _) _⟩
            case measure => simp [intOf]; omega
        · obtain rfl : v = m := by omega
          have HOE : Hid (OwnN wr (w.heap.size + 1) (some ⟨w.heap.size + 1, 0, none⟩) v v (mateTo (zs.take (k + 1)) v)) := Lib.hid (by rw [← midL_full]; exact ho)
          have HBE := Lib.hid hb
          clear ho hb
          go_wp2
          go_roundw
          case rel => exact ⟨k + 1, by omega, by go_num, HOE.out, HBE.out⟩
          case measure => simp [intOf]; omega
    · obtain rfl : k = n := by omega
      have HRR : Hid (RetInts w (mateTo zs m) (.returned (.slice (some ⟨w.heap.size + 1, 0, none⟩) m m)) wo) := Lib.hid (by
        refine ⟨some ⟨w.heap.size + 1, 0, none⟩, m, by rw [mateTo_len], ?_, ?_⟩
        · have h := HO.out
          rw [List.take_of_length_le (by rw [← HN.out]; exact Nat.le_refl _)] at h
          have h2 := ownsRow_base h (B := w.heap.size) (by omega)
          unfold OwnI
          rw [mateTo_len]
          exact h2
        · exact HB0.out.trans ((HB1.out.trans HBo.out).mono (by omega)))
      go_wp2
      go_ret
      exact HRR.out

set_option maxRecDepth 100000 in
set_option maxHeartbeats 2000000 in
theorem specPairs8_any (m : Int) (a : Option Addr) (c : Nat) (zs : List Int) (w : World) (ha : Ints w w.heap.size a zs) (hx : zs.length ≤ 1048576) :
    Calls Tryd.prog 23 #[.agg #[.int .i64 m, .slice a zs.length c]] w (RetSB w (pairsZ m zs) (famIn m zs)) := by
  have F1 := FB.start (m := m) (c := c) ha
  have HB0 := Lib.hid (below1 w (.cells #[.int .i64 m, .slice a zs.length c] 25))
  have HF1 := Lib.hid F1
  have HFI := Lib.hid (specFamilyIn_any m a c zs _ F1.ints hx)
  have f_0 := F1.x0
  have f_1 := F1.x1
  clear F1 ha
  cases hf : famIn m zs
  · have HF := Lib.hid hf
    have HR : Hid (pairsZ m zs = []) := Lib.hid (by unfold pairsZ; rw [hf]; rfl)
    clear hf
    go_enter Tryd.func23, Tryd.ntmps23
    go_wp2_with fail
    refine HFI.out.mono ?_
    rintro e w2 ⟨rfl, hb2⟩
    rw [HF.out]
    have HB2 := Lib.hid (HB0.out.trans (hb2.mono (by simp)))
    clear hb2 f_0 f_1
    go_wp2
    go_ret2
    exact ⟨some ⟨w2.heap.size, 0, none⟩, 0, by rw [HR.out]; rfl, by rw [HR.out]; exact own_mono (own_empty (alloc_new w2 _) (Nat.le_refl _)) HB2.out.size, HB2.out.trans ((below1 w2 _).mono HB2.out.size)⟩
  · have HF := Lib.hid hf
    obtain ⟨k, rfl, hk1, hk6, hset, hl8⟩ := fam_nat2 hf
    have HR : Hid (pairsZ (k : Int) zs = mateTo zs k) := Lib.hid (by unfold pairsZ; rw [hf, Int.toNat_natCast]; rfl)
    have HSET := Lib.hid hset
    clear hf hset
    go_enter Tryd.func23, Tryd.ntmps23
    go_wp2_with fail
    refine HFI.out.mono ?_
    rintro e w2 ⟨rfl, hb2⟩
    rw [HF.out]
    have HF2 := Lib.hid (HF1.out.step hb2)
    have HB2 := Lib.hid (HB0.out.trans (hb2.mono (by simp)))
    have HC := Lib.hid (l6ePairs8_any k hk6 a c zs w2 HF2.out.ints hl8 HSET.out)
    clear hb2 f_0 f_1
    have f_0 := HF2.out.x0
    have f_1 := HF2.out.x1
    go_wp2_with fail
    refine HC.out.mono ?_
    rintro e w3 ⟨a3, c3, rfl, ho3, hb3⟩
    have HB3 := Lib.hid (HB2.out.trans (hb3.mono HB2.out.size))
    have HO3 : Hid (OwnI w3 w.heap.size (.slice a3 (mateTo zs k).length c3) (mateTo zs k)) := Lib.hid (own_mono ho3 HB2.out.size)
    clear hb3 ho3
    go_wp2
    go_ret2
    exact ⟨a3, c3, by rw [HR.out]; rfl, by rw [HR.out]; exact HO3.out, HB3.out⟩

end Go.Proofs.YtobjmiaanoheeaaDoor

/- It is proved what FamilyAll of the program and of the model return; conditions: those of each statement. -/
namespace Go.Proofs.YtobjmiaanoheeaaDoor
open Go.RowKit Go.Shelf

attribute [local go_sem] Oper.semAt_some

def orAll (zs : List Int) : Int := zs.foldl (fun s z => bits .or .i64 s z) 0
theorem orAll_snoc (zs : List Int) (x : Int) : orAll (zs ++ [x]) = bits .or .i64 (orAll zs) x := by simp [orAll]
theorem orAll_take (zs : List Int) (k : Nat) (h : k < zs.length) : orAll (zs.take (k + 1)) = bits .or .i64 (orAll (zs.take k)) (zs[k]?.getD 0) := by
  rw [List.take_succ_eq_append_getElem h, orAll_snoc]; simp [h]

set_option maxRecDepth 100000 in
set_option maxHeartbeats 400000 in
theorem l1Union_any (a : Option Addr) (c : Nat) (zs : List Int) (B : Nat) (w : World) (ha : Ints w B a zs) (hx : zs.length ≤ 1048576) :
    Calls Tryd.prog 51 #[.slice a zs.length c] w fun e w' => e = .returned (.int .i64 (orAll zs)) ∧ w = w' := by
  go_enter Tryd.func51, Tryd.ntmps51
  go_wp2
  go_loop [3, 4] (fun s i => ∃ k : Nat, k ≤ zs.length ∧ i = .int .i64 k ∧ s = .int .i64 (orAll (zs.take k))) (fun _ i => zs.length - (intOf i).toNat)
  case atStart => exact ⟨0, Nat.zero_le _, rfl, rfl⟩
  case round =>
    obtain ⟨k, hk, rfl, rfl⟩ := hrel
    by_cases hlt : k < zs.length
    · obtain ⟨b1, o1, rfl, hb1, hc1⟩ := ha.at_ hlt
      have HO := Lib.hid (orAll_take zs k hlt)
      go_wp2
      go_round
      case rel => exact ⟨k + 1, by omega, by go_num, by rw [HO.out]; simp [hlt]⟩
      case measure => simp [intOf]; omega
    · obtain rfl : k = zs.length := by omega
      have HT := Lib.hid (List.take_length (l := zs))
      go_wp2
      go_ret
      exact ⟨by simp, rfl⟩

end Go.Proofs.YtobjmiaanoheeaaDoor
