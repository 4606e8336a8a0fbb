/- It is proved what slices.IndexFunc and slices.DeleteFunc do with a list of the call's own and the closure of without; conditions: those of each statement. -/
import Derived.Lib.SliceRun
import Derived.Test.YtphddemilibooaaDoorRows
import Derived.WalkKit
import Derived.WalkSpells
import Derived.ProofKit
import Derived.OpenShut
import Derived.ShutString
import Derived.ChangeOld
import Derived.Below
import Derived.Deep.RegionHeld3
import Derived.Deep.QuietTactic
import Derived.BigQuiet
import Derived.Lib.Hide
import Derived.Lib.SmallJoins
import Derived.Outline
import Derived.Laws.MakeOwn
import Derived.Laws.OwnMore
import Derived.IntWalk
import Derived.Lib.AppendZeros
import Derived.Maps.AppendAt
import Derived.Deep.AppendLies
import Derived.OwnWalk
import Derived.Lib.SlicesCompact
import Derived.Lib.OwnBridge
import Derived.Shelf.Sort.Plain
import Derived.Shelf.Slices.In.SortNone
import Derived.Shelf.Slices.CompactI
import Derived.Ground.Names2Prog
import Derived.RangeFuncNested
import Derived.RangeFuncBound
import Derived.RangeFuncCalls
import Derived.RangeFuncLeaves
import Derived.RangeFuncBox
import Derived.Shelf.Abstract
import Derived.Shelf.RegionOpen
import Derived.OwnWalkIn
import Derived.TacticsInMore
import Derived.LoopNIn
import Derived.LoopIn
import Derived.Test.YtphddemilibooaaDoorRaab
import Derived.Test.YtphddemilibooaaDoorRaaa
import Derived.Test.YtphddemilibooaaDoorRaac
namespace Go.Proofs.YtphddemilibooaaDoor
open Go.RowKit

theorem own_shrink {w : World} {B g n cap k : Nat} {ys : List Int} (h : OwnN w B (some ⟨g, 0, none⟩) n cap ys) (hk : k ≤ n) : OwnN w B (some ⟨g, 0, none⟩) k cap (ys.take k) := by
  have hl := h.len
  rcases h.2 with ⟨e, _⟩ | ⟨g', cap', cur, e, hb, hg, hc, hm, hs, ht⟩
  · cases e
  · injection e with e1 e2 e3
    injection e1 with e1
    injection e1 with e1
    subst e1; subst e3
    refine ⟨by simp; omega, .inr ⟨g, cap, cur, rfl, hb, hg, by omega, hm, hs, ?_⟩⟩
    have h2 : (cur.toList.take (n * 1)).take k = (ys.map (Value.int .i64)).take k := by rw [ht]
    rw [List.take_take, show min k (n * 1) = k * 1 by omega, ← List.map_take] at h2
    exact h2

theorem own_high {w : World} {B g k cap p : Nat} {ys : List Int} (h : OwnN w B (some ⟨g, 0, none⟩) k cap ys) (hp : k ≤ p) (v : Value) : OwnN (w.setCell ⟨g, p, none⟩ v) B (some ⟨g, 0, none⟩) k cap ys := by
  rcases h.2 with ⟨e, _⟩ | ⟨g', cap', cur, e, hb, hg, hc, hm, hs, ht⟩
  · cases e
  · injection e with e1 e2 e3
    injection e1 with e1
    injection e1 with e1
    subst e1; subst e3
    refine ⟨h.1, .inr ⟨g, cap, cur.setIfInBounds p v, rfl, hb, heap_setCell_same w g p cur 3 v hg, hc, hm, by simpa using hs, ?_⟩⟩
    rw [← ht, Array.toList_setIfInBounds, List.take_set_of_le (by omega)]

theorem own_highs {B g k cap : Nat} {ys : List Int} : ∀ (vs : List Value) (o : Nat) (w : World), OwnN w B (some ⟨g, 0, none⟩) k cap ys → k ≤ o → OwnN (w.setCells g o vs) B (some ⟨g, 0, none⟩) k cap ys
  | [], _, _, h, _ => h
  | v :: r, o, w, h, ho => own_highs r (o + 1) _ (own_high h ho v) (by omega)

theorem only_setCells {a : World} {g : Nat} : ∀ (vs : List Value) (o : Nat) (w : World), a.grownBy w (some g) → a.grownBy (w.setCells g o vs) (some g)
  | [], _, _, h => h
  | v :: r, o, _, h => only_setCells r (o + 1) _ (only_setCell (p := ⟨g, o, none⟩) h rfl v)

set_option maxRecDepth 100000 in
set_option maxHeartbeats 1600000 in
theorem indexFunc_any (g n cap B P Q : Nat) (ys : List Int) (f : Int → Bool) (w : World) (h : OwnN w B (some ⟨g, 0, none⟩) n cap ys) (hn : n ≤ 1048576) (hB : B ≤ w.heap.size)
    (hK : ∀ z W, Below B w W → Calls Tryd.prog 96 #[.int .i64 z, .pointer (some ⟨P, 0, none⟩), .pointer (some ⟨Q, 0, none⟩)] W fun e W' => e = .returned (.bool (f z)) ∧ Below W.heap.size W W') :
    Calls Tryd.prog 85 #[.slice (some ⟨g, 0, none⟩) n cap, .func (.func 96) #[] #[.pointer (some ⟨P, 0, none⟩), .pointer (some ⟨Q, 0, none⟩)]] w fun e w' =>
      ∃ r, e = .returned (.int .i64 r) ∧ ((r = -1 ∧ ∀ j, j < n → f (ys[j]?.getD 0) = false) ∨ (∃ k, k < n ∧ r = (k : Int) ∧ f (ys[k]?.getD 0) = true ∧ ∀ j, j < k → f (ys[j]?.getD 0) = false)) ∧ Below w.heap.size w w' := by
  have HO := Lib.hid h
  have HK := Lib.hid hK
  clear h hK
  go_enter Tryd.func85, Tryd.ntmps85
  go_wp2
  go_loopw [5, 8] (fun _ i wr => ∃ k : Nat, k ≤ n ∧ i = .int .i64 k ∧ (∀ j, j < k → f (ys[j]?.getD 0) = false) ∧ Below w.heap.size w wr) (fun _ i _ => n - (intOf i).toNat)
  case atStart => exact ⟨0, Nat.zero_le _, rfl, fun j hj => by omega, Below.refl _ _⟩
  case round =>
    obtain ⟨k, hk, rfl, he, hb⟩ := hrel
    have HE := Lib.hid he
    have HB := Lib.hid hb
    by_cases hlt : k < n
    · have hki : (k : Int) < (n : Int) := by omega
      have hc := (HO.out.below hb).cell hlt
      clear he hb
      cases hf : f (ys[k]?.getD 0)
      · have HF := Lib.hid hf
        clear hf
        go_wp2_with (go_at_call 96; refine (HK.out _ _ (Below.mono HB.out hB)).mono ?_; rintro e w3 ⟨rfl, hb3⟩; rw [HF.out])
        have HB3 := Lib.hid (HB.out.trans (hb3.mono HB.out.size))
        clear hb3
        go_roundw
        case rel => exact ⟨k + 1, by omega, by go_num, fun j hj => by
          rcases Nat.lt_succ_iff_lt_or_eq.1 hj with h | rfl
          · exact HE.out j h
          · exact HF.out, HB3.out⟩
        case measure => simp [intOf]; omega
      · have HF := Lib.hid hf
        clear hf
        go_wp2_with (go_at_call 96; refine (HK.out _ _ (Below.mono HB.out hB)).mono ?_; rintro e w3 ⟨rfl, hb3⟩; rw [HF.out])
        have HB3 := Lib.hid (HB.out.trans (hb3.mono HB.out.size))
        clear hb3
        go_ret
        exact ⟨_, rfl, .inr ⟨k, hlt, rfl, HF.out, HE.out⟩, HB3.out⟩
    · obtain rfl : k = n := by omega
      clear he hb
      go_wp2
      go_ret
      exact ⟨_, rfl, .inl ⟨rfl, HE.out⟩, HB.out⟩

theorem filter_start {ys : List Int} {f : Int → Bool} {k : Nat} (hk : k < ys.length) (h1 : f (ys[k]?.getD 0) = true) (h2 : ∀ j, j < k → f (ys[j]?.getD 0) = false) : ys.take k = (ys.take (k + 1)).filter fun z => !f z := by
  rw [List.take_succ_eq_append_getElem hk, List.filter_append]
  have e : f ys[k] = true := by simpa [hk] using h1
  have e2 : (ys.take k).filter (fun z => !f z) = ys.take k := by
    rw [List.filter_eq_self]
    intro a ha
    obtain ⟨i, hi, rfl⟩ := List.getElem_of_mem ha
    have hik : i < k := by simp at hi; omega
    have := h2 i hik
    simp [show i < ys.length by omega] at this
    simp [this]
  rw [e2]
  simp [e]

theorem filter_keep {ys ys' : List Int} {f : Int → Bool} {i j : Nat} (hi : i < ys'.length) (hj : j < ys.length) (h : ys'.take i = (ys.take j).filter fun z => !f z) (hf : f (ys[j]?.getD 0) = false) :
    (ys'.set i (ys[j]?.getD 0)).take (i + 1) = (ys.take (j + 1)).filter fun z => !f z := by
  rw [List.take_succ_eq_append_getElem hj, List.filter_append, ← h]
  have e : f ys[j] = false := by simpa [hj] using hf
  rw [List.take_succ_eq_append_getElem (by simpa using hi), List.take_set_of_le (Nat.le_refl _)]
  simp [e, hj]

theorem filter_skip {ys ys' : List Int} {f : Int → Bool} {i j : Nat} (hj : j < ys.length) (h : ys'.take i = (ys.take j).filter fun z => !f z) (hf : f (ys[j]?.getD 0) = true) :
    ys'.take i = (ys.take (j + 1)).filter fun z => !f z := by
  rw [List.take_succ_eq_append_getElem hj, List.filter_append, ← h]
  have e : f ys[j] = true := by simpa [hj] using hf
  simp [e]

theorem drop_at {ys ys' : List Int} {j : Nat} (h : ys'.drop j = ys.drop j) : ys'[j]? = ys[j]? := by
  have : (ys'.drop j)[0]? = (ys.drop j)[0]? := by rw [h]
  simpa using this

theorem drop_next {ys ys' : List Int} {j : Nat} (h : ys'.drop j = ys.drop j) : ys'.drop (j + 1) = ys.drop (j + 1) := by
  have : (ys'.drop j).drop 1 = (ys.drop j).drop 1 := by rw [h]
  simpa [List.drop_drop] using this

set_option maxRecDepth 100000 in
set_option maxHeartbeats 3200000 in
theorem deleteFunc_any (g n cap B P Q : Nat) (ys : List Int) (f : Int → Bool) (w : World) (h : OwnN w B (some ⟨g, 0, none⟩) n cap ys) (hn : n ≤ 1048576) (hB : B ≤ w.heap.size)
    (hK : ∀ z W, Below B w W → Calls Tryd.prog 96 #[.int .i64 z, .pointer (some ⟨P, 0, none⟩), .pointer (some ⟨Q, 0, none⟩)] W fun e W' => e = .returned (.bool (f z)) ∧ Below W.heap.size W W') :
    Calls Tryd.prog 98 #[.slice (some ⟨g, 0, none⟩) n cap, .func (.func 96) #[] #[.pointer (some ⟨P, 0, none⟩), .pointer (some ⟨Q, 0, none⟩)]] w fun e w' =>
      e = .returned (.slice (some ⟨g, 0, none⟩) (ys.filter fun z => !f z).length cap) ∧ OwnN w' B (some ⟨g, 0, none⟩) (ys.filter fun z => !f z).length cap (ys.filter fun z => !f z) ∧ w.grownBy w' (some g) := by
  have HO := Lib.hid h
  have HK := Lib.hid hK
  have HL := Lib.hid h.len
  have hcap := h.cap_le
  have hcm : cap ≤ maxLen := by
    rcases h.2 with ⟨e, _⟩ | ⟨g', cap', cur, e, hb, hg, hc, hm, hs, ht⟩
    · cases e
    · injection e with e1 e2 e3
      omega
  simp only [maxLen] at hcm
  have hgB : B ≤ g ∧ g < w.heap.size := World.ownsRow.lt h g rfl
  clear h hK
  go_enter Tryd.func98, Tryd.ntmps98
  go_wp2_with fail
  refine (indexFunc_any g n cap B P Q ys f w HO.out hn hB HK.out).mono ?_
  rintro e w1 ⟨r, rfl, hr, hb1⟩
  have HB1 := Lib.hid hb1
  clear hb1
  rcases hr with ⟨rfl, hall⟩ | ⟨k0, hk0, rfl, hk1, hk2⟩
  · have hfil : (ys.filter fun z => !f z) = ys := by
      rw [List.filter_eq_self]
      intro a ha
      obtain ⟨i, hi, rfl⟩ := List.getElem_of_mem ha
      have := hall i (by rw [HL.out] at hi; exact hi)
      simp [hi] at this
      simp [this]
    have HF := Lib.hid hfil
    clear hall hfil
    go_wp2
    go_ret
    rw [HF.out, HL.out]
    exact ⟨rfl, HO.out.below HB1.out, only_of_below HB1.out _⟩
  · have hne : ((k0 : Int) == -1) = false := beq_eq_false_iff_ne.2 (by omega)
    have HS := Lib.hid (filter_start (by rw [HL.out]; exact hk0) hk1 hk2)
    clear hk1 hk2
    go_wp2
    go_loopw [5, 6, 7] (fun s5 s6 _ wr => ∃ (i j : Nat) (ys' : List Int), s5 = .int .i64 i ∧ s6 = .int .i64 j ∧ i < j ∧ j ≤ n ∧ OwnN wr B (some ⟨g, 0, none⟩) n cap ys' ∧ ys'.take i = ((ys.take j).filter fun z => !f z) ∧ ys'.drop j = ys.drop j ∧ w.grownBy wr (some g)) (fun _ s6 _ _ => n - (intOf s6).toNat)
    case atStart => exact ⟨k0, k0 + 1, ys, rfl, by go_num, Nat.lt_succ_self _, hk0, HO.out.below HB1.out, HS.out, rfl, only_of_below HB1.out _⟩
    case round =>
      obtain ⟨i, j, ys', rfl, rfl, hij, hjn, ho, htk, hdr, hg⟩ := hrel
      have HO2 := Lib.hid ho
      have HT := Lib.hid htk
      have HD := Lib.hid hdr
      have HG := Lib.hid hg
      have hbB : Below B w wr := (Below.refl _ _).grown hg hB (fun k e => by cases e; exact hgB.1)
      have HBB := Lib.hid hbB
      by_cases hlt : j < n
      · have hji : (j : Int) < (n : Int) := by omega
        have cj := ho.cell hlt
        rw [drop_at hdr] at cj
        clear ho htk hdr hg hbB
        cases hf : f (ys[j]?.getD 0)
        · have HF := Lib.hid hf
          clear hf
          go_wp2_with fail
          refine (HK.out _ _ HBB.out).mono ?_
          rintro e w3 ⟨rfl, hb3⟩
          rw [HF.out]
          have ho3 := HO2.out.below hb3
          have ci := ho3.cell (show i < n by omega)
          have fi := World.ownsRow.frozenAt ho3 i
          have HS3 := Lib.hid (World.ownsRow.stored ho3 i (.int .i64 (ys[j]?.getD 0)))
          have HG3 := Lib.hid (only_trans HG.out (only_of_below hb3 (some g)))
          have hii : (i : Int) < (n : Int) := by omega
          clear hb3 ho3
          go_wp2
          go_roundw
          case rel => exact ⟨i + 1, j + 1, ys'.set i (ys[j]?.getD 0), by go_num, by go_num, by omega, by omega, by have h1 := HS3.out.1; rw [← List.map_set] at h1; exact h1,
            filter_keep (by rw [HO2.out.len]; omega) (by rw [HL.out]; exact hlt) HT.out HF.out, by rw [List.drop_set_of_lt (by omega)]; exact drop_next HD.out, only_setCell (p := ⟨g, i, none⟩) HG3.out rfl _⟩
          case measure => simp [intOf]; omega
        · have HF := Lib.hid hf
          clear hf
          go_wp2_with fail
          refine (HK.out _ _ HBB.out).mono ?_
          rintro e w3 ⟨rfl, hb3⟩
          rw [HF.out]
          have HO3 := Lib.hid (HO2.out.below hb3)
          have HG3 := Lib.hid (only_trans HG.out (only_of_below hb3 (some g)))
          clear hb3
          go_wp2
          go_roundw
          case rel => exact ⟨i, j + 1, ys', rfl, by go_num, by omega, by omega, HO3.out, filter_skip (by rw [HL.out]; exact hlt) HT.out HF.out, drop_next HD.out, HG3.out⟩
          case measure => simp [intOf]; omega
      · obtain rfl : j = n := by omega
        have hfil : ys'.take i = ys.filter fun z => !f z := by rw [htk, List.take_of_length_le (by rw [HL.out]; exact Nat.le_refl _)]
        have hcl : ∀ ty, (Builtin.clear_ #[23] ty #[.slice (some ⟨g, i, none⟩) (j - i) (cap - i)]).run Tryd.prog wr = .ok (.tuple #[]) (wr.setCells g i (List.replicate (j - i) (.int .i64 0))) :=
          fun ty => Lib.run_clear_slice wr 23 3 ty (.int .i64 0) Tryd.underlying23 Tryd.zeroValue3 rfl rfl g i (j - i) (cap - i) (by omega)
            (fun t ht => by rw [ho.cell (show i + t < j by omega)]; rfl) (fun t ht => World.ownsRow.frozenAt ho (i + t))
        have HW := Lib.hid (own_highs (List.replicate (j - i) (.int .i64 0)) i wr (own_shrink ho (k := i) (by omega)) (Nat.le_refl _))
        have HGW := Lib.hid (only_setCells (List.replicate (j - i) (.int .i64 0)) i wr hg)
        have hic : (i : Int) < (cap : Int) := by omega
        have hic' : ¬ cap = i := by omega
        have hii : (i : Int) ≤ (j : Int) := by omega
        have hjc : (j : Int) ≤ (cap : Int) := by omega
        have hl : (ys.filter fun z => !f z).length = i := by rw [← hfil, List.length_take, HO2.out.len]; omega
        have HLF := Lib.hid hl
        have HFI := Lib.hid hfil
        clear ho htk hdr hg hbB hl hfil
        go_wp2
        go_ret
        rw [HLF.out]
        refine ⟨rfl, ?_, HGW.out⟩
        have := HW.out
        rw [HFI.out] at this
        exact this

end Go.Proofs.YtphddemilibooaaDoor
