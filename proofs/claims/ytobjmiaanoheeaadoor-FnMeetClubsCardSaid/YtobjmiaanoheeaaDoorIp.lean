/- It is proved what l8Clubs and MeetClubs of the model return; conditions: those of each statement. -/
import Derived.BigQuiet
import Derived.Deep.QuietTactic
import Derived.RowKit
import Derived.Laws.CopyRow
import Derived.Lib.SlBuf
import Derived.RangeFuncNested
import Derived.RangeFuncBound
import Derived.RangeFuncCalls
import Derived.RangeFuncLeaves
import Derived.RangeFuncBox
import Derived.RangeFuncWrites
import Derived.StillTailTactics
import Derived.Maps.OwnIn
import Derived.Maps.Ext
import Derived.DeepKeys4
import Derived.MapKept
import Derived.Test.YtobjmiaanoheeaaDoorRows
import Derived.WalkKit
import Derived.WalkSpells
import Derived.ProofKit
import Derived.OpenShut
import Derived.ShutString
import Derived.ChangeOld
import Derived.Below
import Derived.Deep.RegionHeld3
import Derived.Lib.Hide
import Derived.Lib.SmallJoins
import Derived.Outline
import Derived.Laws.MakeOwn
import Derived.Laws.OwnMore
import Derived.IntWalk
import Derived.Deep.RegionLaw
import Derived.Deep.AppendLies
import Derived.Lib.AppendZeros
import Derived.Maps.AppendAt
import Derived.OwnWalk
import Derived.Lib.SlicesCompact
import Derived.Lib.OwnBridge
import Derived.OrdersIn
import Derived.TacticsIn
import Derived.Shelf.Sort.Plain
import Derived.Shelf.Slices.In.SortNone
import Derived.Shelf.Slices.CompactI
import Derived.Ground.Names2Prog
import Derived.Lib.SliceRun
import Derived.Laws.BitsAllLaws
import Derived.Shelf.RegionOpen
import Derived.Shelf.Abstract
import Derived.OwnWalkIn
import Derived.TacticsInMore
import Derived.LoopNIn
import Derived.LoopIn
import Derived.StillTail
import Derived.StillTactics
import Derived.Shelf.Spec.TrailingZeros
import Derived.Deep.LoopGhost
import Derived.Test.YtobjmiaanoheeaaDoorRaaa
import Derived.Test.YtobjmiaanoheeaaDoorRaab
import Derived.Test.YtobjmiaanoheeaaDoorRaam
import Derived.Test.YtobjmiaanoheeaaDoorRaay
import Derived.Test.YtobjmiaanoheeaaDoorRaae
import Derived.Test.YtobjmiaanoheeaaDoorRaas
import Derived.Test.YtobjmiaanoheeaaDoorIb
import Derived.Test.YtobjmiaanoheeaaDoorRaaz
import Derived.Test.YtobjmiaanoheeaaDoorRabf
import Derived.Test.YtobjmiaanoheeaaDoorKa
import Derived.Test.YtobjmiaanoheeaaDoorRaai
import Derived.Test.YtobjmiaanoheeaaDoorRaap
namespace Go.Proofs.YtobjmiaanoheeaaDoor
open Go.RowKit Go.Shelf

/-- The places of other clubs that meet a club, the first j of them. -/
def cluTo (zs : List Int) (i j : Nat) : Nat := (List.range j).foldl (fun s k => if i ≠ k ∧ metN zs i k = true then s ||| 2 ^ k else s) 0

theorem cluTo_succ (zs : List Int) (i j : Nat) : cluTo zs i (j + 1) = if i ≠ j ∧ metN zs i j = true then cluTo zs i j ||| 2 ^ j else cluTo zs i j := by
  unfold cluTo
  rw [List.range_succ, List.foldl_append]
  rfl

theorem cluTo_bit (zs : List Int) (i u : Nat) : ∀ j, (cluTo zs i j).testBit u = true ↔ u < j ∧ i ≠ u ∧ metN zs i u = true
  | 0 => by simp [cluTo]
  | j + 1 => by
    rw [cluTo_succ]
    by_cases h : i ≠ j ∧ metN zs i j = true
    · rw [if_pos h, Nat.testBit_or, Bool.or_eq_true, cluTo_bit zs i u j, Nat.testBit_two_pow, decide_eq_true_eq]
      constructor
      · rintro (⟨h1, h2⟩ | rfl)
        · exact ⟨by omega, h2⟩
        · exact ⟨by omega, h⟩
      · rintro ⟨h1, h2⟩
        by_cases e : j = u
        · exact .inr e
        · exact .inl ⟨by omega, h2⟩
    · rw [if_neg h, cluTo_bit zs i u j]
      constructor
      · rintro ⟨h1, h2⟩; exact ⟨by omega, h2⟩
      · rintro ⟨h1, h2⟩
        by_cases e : j = u
        · subst e; exact (h h2).elim
        · exact ⟨by omega, h2⟩

theorem cluTo_lt (zs : List Int) (i j : Nat) (hj : j ≤ 8) : cluTo zs i j < 256 := by
  have : cluTo zs i j < 2 ^ j := by
    apply Nat.lt_pow_two_of_testBit
    intro u hu
    cases hb : (cluTo zs i j).testBit u
    · rfl
    · have := ((cluTo_bit zs i u j).1 hb).1; omega
  exact p256 hj this

def cluL (zs : List Int) (n : Nat) : List Int := (List.range n).map fun i => ((cluTo zs i zs.length : Nat) : Int)
theorem cluL_succ (zs : List Int) (j : Nat) : cluL zs (j + 1) = cluL zs j ++ [((cluTo zs j zs.length : Nat) : Int)] := by simp [cluL, List.range_succ]
theorem cluL_len (zs : List Int) (n : Nat) : (cluL zs n).length = n := by simp [cluL]
theorem clu_mate {m : Nat} (hm : m ≤ 6) {zs : List Int} (hS : Sets m zs) (hl : zs.length ≤ 8) : cluL zs zs.length = mateTo (duZ m zs) zs.length := by
  unfold cluL mateTo
  apply List.map_congr_left
  intro i hi
  have hi' := List.mem_range.1 hi
  have ha : arN i (duZ m zs) < 256 := p256 hl (arN_lt (duZ_sets m zs))
  have h2 : 2 ^ i < 256 := Nat.pow_lt_pow_right (a := 2) (n := 8) (by decide) (by omega)
  have e : cluTo zs i zs.length = anN (arN i (duZ m zs)) (2 ^ i) := by
    apply Nat.eq_of_testBit_eq
    intro u
    rw [Bool.eq_iff_iff, cluTo_bit, anN_bit _ _ _ ha h2, Bool.and_eq_true, du_ar hm hS, Nat.testBit_two_pow, Bool.not_eq_true', decide_eq_false_iff_not]
    constructor
    · rintro ⟨h1, h3, h4⟩; exact ⟨⟨hi', h1, h4⟩, h3⟩
    · rintro ⟨⟨_, h1, h4⟩, h3⟩; exact ⟨h1, h3, h4⟩
  rw [e]

set_option maxRecDepth 100000 in
set_option maxHeartbeats 4000000 in
theorem l8Clubs_any (m : Nat) (hm6 : m ≤ 6) (a : Option Addr) (c : Nat) (zs : List Int) (w : World) (ha : Ints w w.heap.size a zs) (h8 : zs.length ≤ 8) (hS : Sets m zs) :
    Calls Tryd.prog 69 #[.slice a zs.length c] w fun e w' => ∃ (a' : Option Addr) (c' : Nat), e = .returned (.slice a' zs.length c') ∧ OwnI w' w.heap.size (.slice a' zs.length c') (cluL zs zs.length) ∧ Below w.heap.size w w' := by
  obtain ⟨i0, hi0, hz0, hz1, hz2⟩ := info_parts Tryd.info3
  have HI := Lib.hid ha
  have HSET := Lib.hid hS
  obtain ⟨n, hn⟩ : ∃ n, n = zs.length := ⟨_, rfl⟩
  have HN := Lib.hid hn
  rw [← hn] at h8 ⊢
  have hx : n ≤ 1048576 := by omega
  have HAT : Hid (∀ k, k < n → ∃ z : Nat, zs[k]?.getD 0 = (z : Int) ∧ z < 64) := Lib.hid fun k hk => by
    have := HSET.out _ (getD_mem (zs := zs) (i := k) (by rw [← hn]; exact hk))
    exact ⟨(zs[k]?.getD 0).toNat, by omega, p64 hm6 this.2⟩
  have HB1 := Lib.hid (below1 w (.cells #[] 3))
  have HO1 : Hid ((w.alloc (.cells #[] 3)).ownsRow w.heap.size 3 1 (.slice (some ⟨w.heap.size, 0, none⟩) 0 0) 0 (([] : List Int).map (Value.int .i64))) := Lib.hid (own_empty (alloc_new w _) (Nat.le_refl _))
  clear ha hS hn
  go_enter Tryd.func69, Tryd.ntmps69
  go_wp2
  go_loopw [3, 4] (fun v i wr => ∃ (k : Nat) (a' : Option Addr) (c' : Nat), k ≤ n ∧ i = .int .i64 (k : Int) ∧ v = .slice a' k c' ∧ wr.ownsRow w.heap.size 3 1 (.slice a' k c') k ((cluL zs k).map (Value.int .i64)) ∧ Below w.heap.size w wr) (fun _ i _ => n - (intOf i).toNat)
  case atStart => exact ⟨0, _, _, Nat.zero_le _, rfl, rfl, by simpa [cluL] using HO1.out, HB1.out⟩
  case round =>
    obtain ⟨k, a1, c1, hk, rfl, rfl, ho, hb⟩ := hrel
    have HBo := Lib.hid hb
    have HOo := Lib.hid ho
    clear hb ho
    by_cases hlt : k < n
    · have hkI : (k : Int) < (n : Int) := by omega
      have hk0 : (0 : Int) ≤ (k : Int) := by omega
      obtain ⟨wo, hwo⟩ : ∃ wo, wo = wr := ⟨wr, rfl⟩
      subst hwo
      go_wp2
      go_loopw [5, 6] (fun s i wr => ∃ v : Nat, v ≤ n ∧ i = .int .i64 (v : Int) ∧ s = .int .i64 ((cluTo zs k v : Nat) : Int) ∧ Below wo.heap.size wo wr) (fun _ i _ => n - (intOf i).toNat)
      case atStart => exact ⟨0, Nat.zero_le _, rfl, rfl, Below.refl _ _⟩
      case round =>
        obtain ⟨v, hv, rfl, rfl, hb⟩ := hrel
        have hC256 : cluTo zs k v < 256 := cluTo_lt zs k v (by omega)
        have HSU := Lib.hid (cluTo_succ zs k v)
        obtain ⟨C, hC⟩ : ∃ C, C = cluTo zs k v := ⟨_, rfl⟩
        rw [← hC] at hC256 HSU ⊢
        by_cases hvm : v < n
        · have HIr := Lib.hid ((HI.out.below (HBo.out.trans (hb.mono HBo.out.size))).mono (HBo.out.trans (hb.mono HBo.out.size)).size)
          obtain ⟨z, hz, hz64⟩ := HAT.out k hlt
          obtain ⟨y, hy, hy64⟩ := HAT.out v hvm
          obtain ⟨b1, o1, rfl, hb1, hc1⟩ := HIr.out.at_ (k := k) (by rw [← HN.out]; exact hlt)
          obtain ⟨b2, o2, e2, -, hc2⟩ := HIr.out.at_ (k := v) (by rw [← HN.out]; exact hvm)
          injection e2 with e2; injection e2 with e2a e2b
          subst e2a; subst e2b
          have hzy : bits BinOp.and IntKind.i64 (z : Int) (y : Int) = ((z &&& y : Nat) : Int) := and_at8 (by omega) (by omega)
          have HMT : Hid (metN zs k v = decide (z &&& y ≠ 0)) := Lib.hid (by unfold metN; rw [hz, hy, Int.toNat_natCast, Int.toNat_natCast])
          have hze : (((z &&& y : Nat) : Int) != 0) = decide (z &&& y ≠ 0) := by rw [Bool.eq_iff_iff, bne_iff_ne, decide_eq_true_eq]; omega
          have hor : bits BinOp.or IntKind.i64 (C : Int) (2 ^ v) = ((C ||| 2 ^ v : Nat) : Int) := or_at C v hC256 (by omega)
          have hp2 := p2_small v (by omega)
          have hpw : IntKind.i64.wrap ((2 : Int) ^ v) = (2 : Int) ^ v := by rw [IntKind.wrap_i64]; omega
          have hv64 : (v : Int) < 64 := by omega
          rw [hz] at hc1
          rw [hy] at hc2
          have hv0 : (0 : Int) ≤ (v : Int) := by omega
          have hvI : (v : Int) < (n : Int) := by omega
          have HBr := Lib.hid hb
          obtain ⟨X, hX⟩ : ∃ X, X = (z &&& y) := ⟨_, rfl⟩
          rw [← hX] at hzy hze HMT
          clear hb hz hy hb1 hX HIr hC
          by_cases hkv : k = v
          · have hb1 : ((k : Int) != (v : Int)) = false := by rw [bne_eq_false_iff_eq]; omega
            have hb1' : (k != v) = false := by rw [bne_eq_false_iff_eq]; exact hkv
            have HNX : Hid (cluTo zs k (v + 1) = C) := Lib.hid (by rw [HSU.out, if_neg (fun h => h.1 hkv)])
            clear hkv hze
            go_wp2
            go_quiet (fail)
            go_wp2
            go_roundw
            case rel => exact ⟨v + 1, by omega, by go_num, by rw [HNX.out], below_drewN HBr.out _⟩
            case measure => simp [intOf]; omega
          · have hb1 : ((k : Int) != (v : Int)) = true := by rw [bne_iff_ne]; omega
            have hb1' : (k != v) = true := by rw [bne_iff_ne]; exact hkv
            by_cases hx0 : X = 0
            · have hze' : ((X : Int) != 0) = false := by rw [hze]; exact decide_eq_false (fun h => h hx0)
              have HNX : Hid (cluTo zs k (v + 1) = C) := Lib.hid (by rw [HSU.out, HMT.out, if_neg (fun h => (of_decide_eq_true h.2) hx0)])
              clear hkv hze hx0
              go_wp2
              go_quiet (fail)
              go_wp2
              go_roundw
              case rel => exact ⟨v + 1, by omega, by go_num, by rw [HNX.out], below_drewN HBr.out _⟩
              case measure => simp [intOf]; omega
            · have hze' : ((X : Int) != 0) = true := by rw [hze]; exact decide_eq_true hx0
              have HNX : Hid (cluTo zs k (v + 1) = C ||| 2 ^ v) := Lib.hid (by rw [HSU.out, HMT.out, if_pos ⟨hkv, decide_eq_true hx0⟩])
              clear hkv hze hx0
              go_wp2
              go_quiet (fail)
              go_wp2
              go_roundw
              case rel => exact ⟨v + 1, by omega, by go_num, by rw [HNX.out], below_drewN HBr.out _⟩
              case measure => simp [intOf]; omega
        · obtain rfl : v = n := by omega
          have HBr := Lib.hid hb
          have HOr := Lib.hid (ownsRow_below HOo.out hb)
          have HCL : Hid (cluL zs (k + 1) = cluL zs k ++ [(C : Int)]) := Lib.hid (by rw [cluL_succ, ← HN.out, hC])
          have HBW := Lib.hid (HBo.out.trans (hb.mono HBo.out.size))
          have hsz := HBW.out.size
          clear hb hC
          go_wp2_with (at_builtin; refine wpList_append_own _ rfl _ _ 23 rfl w.heap.size 3 i0 (.int .i64 0) 1 8 Tryd.underlying23 hi0 hz0 hz1 hz2 rfl (by decide) _ _ _ rfl (HOr.out.alloc _) ⟨wr.heap.size, 0, none⟩ 1 1 [.int .i64 (C : Int)] rfl rfl (cell_one_new _ _ _) (by simp [Value.oneCell']) (by simp only [maxLen]; omega) (by omega) (by simp; omega) ?_; intro v' w9 hown hgrow _; obtain ⟨g', cap', rfl, _, _⟩ := World.ownsRow.form hown (by omega))
          go_roundw
          case rel => exact ⟨k + 1, _, _, by omega, by go_num, rfl, by rw [HCL.out, List.map_append]; simpa using hown, (HBW.out.alloc (by omega) _).grown hgrow (by simp; omega) (fun g e => (World.ownsRow.lt HOr.out g e).1)⟩
          case measure => simp [intOf]; omega
    · obtain rfl : k = n := by omega
      have HD : Hid (OwnI wr w.heap.size (.slice a1 k c1) (cluL zs k)) := Lib.hid (by
        unfold OwnI
        rw [cluL_len]
        exact HOo.out)
      go_wp2
      go_ret
      exact ⟨a1, c1, rfl, HD.out, HBo.out⟩

set_option maxRecDepth 100000 in
set_option maxHeartbeats 2000000 in
theorem specClubs8_any (m : Int) (a : Option Addr) (c : Nat) (zs : List Int) (w : World) (ha : Ints w w.heap.size a zs) (hx : zs.length ≤ 1048576) :
    Calls Tryd.prog 28 #[.agg #[.int .i64 m, .slice a zs.length c]] w (RetSB w (clubsZ m zs) (famIn m zs)) := by
  have F1 := FB.start (m := m) (c := c) ha
  have HB0 := Lib.hid (below1 w (.cells #[.int .i64 m, .slice a zs.length c] 25))
  have HF1 := Lib.hid F1
  have HFI := Lib.hid (specFamilyIn_any m a c zs _ F1.ints hx)
  have f_0 := F1.x0
  have f_1 := F1.x1
  clear F1 ha
  cases hf : famIn m zs
  · have HF := Lib.hid hf
    have HR : Hid (clubsZ m zs = []) := Lib.hid (by unfold clubsZ; rw [hf]; rfl)
    clear hf
    go_enter Tryd.func28, Tryd.ntmps28
    go_wp2_with fail
    refine HFI.out.mono ?_
    rintro e w2 ⟨rfl, hb2⟩
    rw [HF.out]
    have HB2 := Lib.hid (HB0.out.trans (hb2.mono (by simp)))
    clear hb2 f_0 f_1
    go_wp2
    go_ret2
    exact ⟨some ⟨w2.heap.size, 0, none⟩, 0, by rw [HR.out]; rfl, by rw [HR.out]; exact own_mono (own_empty (alloc_new w2 _) (Nat.le_refl _)) HB2.out.size, HB2.out.trans ((below1 w2 _).mono HB2.out.size)⟩
  · have HF := Lib.hid hf
    obtain ⟨k, rfl, hk1, hk6, hset, hl8⟩ := fam_nat2 hf
    have HR : Hid (clubsZ (k : Int) zs = cluL zs zs.length) := Lib.hid (by unfold clubsZ; rw [hf, Int.toNat_natCast, clu_mate hk6 hset hl8]; rfl)
    have HL : Hid ((clubsZ (k : Int) zs).length = zs.length) := Lib.hid (by rw [HR.out, cluL_len])
    have HSET := Lib.hid hset
    clear hf hset
    go_enter Tryd.func28, Tryd.ntmps28
    go_wp2_with fail
    refine HFI.out.mono ?_
    rintro e w2 ⟨rfl, hb2⟩
    rw [HF.out]
    have HF2 := Lib.hid (HF1.out.step hb2)
    have HB2 := Lib.hid (HB0.out.trans (hb2.mono (by simp)))
    have HC := Lib.hid (l8Clubs_any k hk6 a c zs w2 HF2.out.ints hl8 HSET.out)
    clear hb2 f_0 f_1
    have f_0 := HF2.out.x0
    have f_1 := HF2.out.x1
    go_wp2_with fail
    refine HC.out.mono ?_
    rintro e w3 ⟨a3, c3, rfl, ho3, hb3⟩
    have HB3 := Lib.hid (HB2.out.trans (hb3.mono HB2.out.size))
    have HO3 : Hid (OwnI w3 w.heap.size (.slice a3 zs.length c3) (cluL zs zs.length)) := Lib.hid (own_mono ho3 HB2.out.size)
    clear hb3 ho3
    go_wp2
    go_ret2
    exact ⟨a3, c3, by rw [HL.out]; rfl, by rw [HL.out, HR.out]; exact HO3.out, HB3.out⟩

end Go.Proofs.YtobjmiaanoheeaaDoor
