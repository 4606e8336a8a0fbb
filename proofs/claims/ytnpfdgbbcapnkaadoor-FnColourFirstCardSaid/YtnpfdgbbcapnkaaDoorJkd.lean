/- It is proved that the call of the law FnColourFirst returns true; conditions: those of each statement. -/
import Derived.RowKit
import Derived.Laws.CopyRow
import Derived.Lib.SlBuf
import Derived.Deep.QuietTactic
import Derived.RangeFuncNested
import Derived.RangeFuncBound
import Derived.RangeFuncCalls
import Derived.RangeFuncLeaves
import Derived.RangeFuncBox
import Derived.RangeFuncWrites
import Derived.StillTailTactics
import Derived.Maps.OwnIn
import Derived.Maps.Ext
import Derived.DeepKeys4
import Derived.MapKept
import Derived.Test.YtnpfdgbbcapnkaaDoorRows
import Derived.WalkKit
import Derived.WalkSpells
import Derived.ProofKit
import Derived.OpenShut
import Derived.ShutString
import Derived.ChangeOld
import Derived.Below
import Derived.Deep.RegionHeld3
import Derived.BigQuiet
import Derived.Lib.Hide
import Derived.Lib.SmallJoins
import Derived.Outline
import Derived.Laws.MakeOwn
import Derived.Laws.OwnMore
import Derived.IntWalk
import Derived.Maps.AppendAt
import Derived.Sort.MapsRangeIn
import Derived.Deep.RegionLaw
import Derived.Deep.AppendLies
import Derived.Deep.RegionWith
import Derived.Lib.AppendZeros
import Derived.OwnWalk
import Derived.Lib.SlicesCompact
import Derived.Lib.OwnBridge
import Derived.OrdersIn
import Derived.TacticsIn
import Derived.Shelf.Sort.Plain
import Derived.Shelf.Slices.In.SortNone
import Derived.Shelf.Slices.CompactI
import Derived.Ground.Names2Prog
import Derived.Lib.SliceRun
import Derived.Shelf.RegionOpen
import Derived.Shelf.Abstract
import Derived.OwnWalkIn
import Derived.TacticsInMore
import Derived.LoopNIn
import Derived.LoopIn
import Derived.StillTail
import Derived.StillTactics
import Derived.Shelf.Spec.TrailingZeros
import Derived.Deep.LoopGhost
import Derived.Test.YtnpfdgbbcapnkaaDoorRbaa
import Derived.Test.YtnpfdgbbcapnkaaDoorRbah
import Derived.Test.YtnpfdgbbcapnkaaDoorRbai
import Derived.Test.YtnpfdgbbcapnkaaDoorDe
import Derived.Test.YtnpfdgbbcapnkaaDoorRbab
import Derived.Test.YtnpfdgbbcapnkaaDoorRbaj
import Derived.Test.YtnpfdgbbcapnkaaDoorRbap
import Derived.Test.YtnpfdgbbcapnkaaDoorRbaz
import Derived.Test.YtnpfdgbbcapnkaaDoorRbbb
import Derived.Test.YtnpfdgbbcapnkaaDoorJzd
import Derived.Test.YtnpfdgbbcapnkaaDoorJzi
import Derived.Test.YtnpfdgbbcapnkaaDoorRbaf
import Derived.Test.YtnpfdgbbcapnkaaDoorRbar
import Derived.Test.YtnpfdgbbcapnkaaDoorRbal
import Derived.Test.YtnpfdgbbcapnkaaDoorLi
import Derived.Test.YtnpfdgbbcapnkaaDoorMa
import Derived.Test.YtnpfdgbbcapnkaaDoorMp
import Derived.Test.YtnpfdgbbcapnkaaDoorYf
namespace Go.Proofs.YtnpfdgbbcapnkaaDoor
open Go.RowKit

/-- The colours seen among the first members of a club, as a set. -/
def seenS (cs : List Int) (z : Int) : Nat → Nat
  | 0 => 0
  | v + 1 => if Bt v z = true then seenS cs z v ||| 2 ^ (cs[v]?.getD 0).toNat else seenS cs z v

theorem seen_lt {cs : List Int} {z : Int} (h : ∀ v : Nat, (cs[v]?.getD (0 : Int)).toNat < 6) : ∀ v, seenS cs z v < 64
  | 0 => by simp [seenS]
  | v + 1 => by
    unfold seenS
    have ih := seen_lt (z := z) h v
    split
    · exact Nat.or_lt_two_pow (n := 6) ih (Nat.pow_lt_pow_right (by decide) (h v))
    · exact ih

theorem seen_bit {cs : List Int} {z : Int} {u : Nat} (hu : Bt u z = true) : ∀ {v : Nat}, u < v → (seenS cs z v).testBit (cs[u]?.getD 0).toNat = true
  | 0, h => by omega
  | v + 1, h => by
    unfold seenS
    by_cases e : u = v
    · subst e
      rw [if_pos hu, Nat.testBit_or, Nat.testBit_two_pow_self, Bool.or_true]
    · have ih := seen_bit (cs := cs) hu (v := v) (by omega)
      split
      · rw [Nat.testBit_or, ih, Bool.true_or]
      · exact ih

set_option maxRecDepth 100000 in
theorem cnt2_fin : ∀ s : Fin 64, ∀ a b : Fin 6, a ≠ b → s.val.testBit a.val = true → s.val.testBit b.val = true → 2 ≤ cntK 8 s.val := by decide +kernel

theorem seen_two {m : Nat} (hm : m ≤ 6) {cs : List Int} {z : Int} (hz : z.toNat < 2 ^ m) (h0 : ∀ v : Nat, 0 ≤ cs[v]?.getD (0 : Int)) (h : ∀ v : Nat, (cs[v]?.getD (0 : Int)).toNat < 6) (hx : mixZ cs z = true) : 2 ≤ cntK 8 (seenS cs z m) := by
  rw [mixZ_iff] at hx
  obtain ⟨v, hv, w, hw, hne⟩ := hx
  have h64 := p64 hm hz
  have b1 := seen_bit (cs := cs) ((mem_bt h64).1 hv) (mem_lt m hm _ hz v hv)
  have b2 := seen_bit (cs := cs) ((mem_bt h64).1 hw) (mem_lt m hm _ hz w hw)
  have hl := seen_lt (z := z) h m
  exact cnt2_fin ⟨_, hl⟩ ⟨_, h v⟩ ⟨_, h w⟩ (fun e => by
    have := congrArg Fin.val e
    dsimp only at this
    have h1 := h0 v
    have h2 := h0 w
    omega) b1 b2

/-- What is known of the first colours. -/
theorem first_facts {m : Int} {zs : List Int} {q : Int} (h : firstCB m zs q = true) :
    ∃ k p : Nat, m = (k : Int) ∧ q = (p : Int) ∧ 1 ≤ k ∧ k ≤ 6 ∧ p ≤ 4 ∧ zs.length ≤ 8 ∧ (∀ z ∈ zs, 0 ≤ z ∧ z ≤ 63) ∧ (firstCZ m zs q).length = k ∧ (firstCZ m zs q)[0]?.getD 0 = 0 ∧ 0 < cntCM k zs p ∧ okCM m zs q = true ∧ outCM m zs q = ((cntCM k zs p : Nat) : Int) ∧
      (∀ v : Nat, 0 ≤ (firstCZ m zs q)[v]?.getD 0 ∧ (firstCZ m zs q)[v]?.getD 0 < 4) ∧ (∀ i : Nat, i < zs.length → 2 ≤ cntK 8 (seenS (firstCZ m zs q) (zs[i]?.getD 0) k)) := by
  have h' := h
  unfold firstCB at h'
  rw [Bool.and_eq_true, Bool.and_eq_true] at h'
  obtain ⟨⟨hf, hc⟩, hs⟩ := h'
  have hc' := hc
  unfold colIn at hc'
  rw [Bool.and_eq_true, decide_eq_true_eq, decide_eq_true_eq] at hc'
  obtain ⟨p, rfl, hp4, hp1⟩ := colIn_nat (by decide) hc
  obtain ⟨k, rfl, hk1, hk6, hset, hl8⟩ := fam_nat2 hf
  have hcl0 : colIn (p : Int) 0 = true := by unfold colIn; rw [Bool.and_eq_true, decide_eq_true_eq, decide_eq_true_eq]; omega
  simp only [Int.toNat_natCast] at hs
  obtain ⟨c, hcc⟩ := Option.isSome_iff_exists.1 hs
  have hz : firstCZ (k : Int) zs (p : Int) = c := by unfold firstCZ; rw [hf, hc]; simp only [Bool.and_self, if_true, Int.toNat_natCast]; rw [hcc]; rfl
  have hmx : mixB zs c = true := List.find?_some hcc
  have hmm := (wordsL_mem _ _ _).1 (List.mem_of_find?_eq_some hcc)
  obtain ⟨n, rfl⟩ : ∃ n, k = n + 1 := ⟨k - 1, by omega⟩
  obtain ⟨u, hu⟩ := first_head (mix_swaps hk6 hset) hcc
  rw [hz]
  have hcol : ∀ v : Nat, 0 ≤ c[v]?.getD 0 ∧ c[v]?.getD 0 < 4 := fun v => by
    by_cases hv : v < c.length
    · rw [List.getElem?_eq_getElem hv, Option.getD_some]
      have := (palI_mem _ _).1 (hmm.2 _ (List.getElem_mem hv))
      omega
    · rw [List.getElem?_eq_none (by omega)]; simp
  refine ⟨n + 1, p, rfl, rfl, hk1, hk6, hp4, hl8, fun z hzz => ⟨(hset z hzz).1, by have := p64 hk6 (hset z hzz).2; omega⟩, hmm.1, by rw [hu]; rfl, ?_, by unfold okCM; rw [hf, hcl0]; rfl, by unfold outCM; rw [hf, hcl0]; rfl, hcol, fun i hi => ?_⟩
  · have := firstC_cnt (n + 1) zs p
    rw [hcc] at this
    simpa using this.symm
  · have hin := at_in hi
    refine seen_two hk6 (hset _ hin).2 (fun v => (hcol v).1) (fun v => by have := hcol v; omega) ?_
    unfold mixB at hmx
    exact List.all_eq_true.1 hmx _ hin

set_option maxRecDepth 100000 in
set_option maxHeartbeats 8000000 in
theorem walkFnColourFirst (a : Option Addr) (n cap : Nat) (w : World) (hb : Bys w w.heap.size a n) (hT : Tab w) (hn : n ≤ 1048576) (hc : n ≤ cap) (hc2 : cap ≤ 9223372036854775807) :
    Calls Tryd.prog 6 #[.slice a n cap] w fun e w' => e = .returned (.bool true) ∧ Below w.heap.size w w' := by
  have HBy := Lib.hid hb
  have HT := Lib.hid hT
  clear hb hT
  go_enter Tryd.func6, Tryd.ntmps6
  go_wp2_with fail
  refine (drawColourFirst_any a n cap w HBy.out hn hc hc2).mono ?_
  rintro e w1 ⟨m, a1, zs, c1, q, rfl, hl, ho1, hb1⟩
  have F1 := FB.start (m := m) (c := c1) (own_ints ho1)
  have B1 := Lib.hid (hb1.trans ((below1 w1 (.cells #[.int .i64 m, .slice a1 zs.length c1] 25)).mono hb1.size))
  have hln : zs.length ≤ 1048576 := by omega
  have f_f_1 := Lib.hid F1
  clear F1 ho1 hb1
  have f_0 := f_f_1.out.x0
  have f_1 := f_f_1.out.x1
  have hql : (firstCZ m zs q).length ≤ 1048576 := firstCZ_len m zs q
  have HFF := Lib.hid (first_facts (m := m) (zs := zs) (q := q))
  have HI := Lib.hid (fun W hi hT => implColourFirst_any m q a1 c1 zs W hi hT hln)
  have HSP := Lib.hid (fun W hi => specColourFirst_any m q a1 c1 zs W hi hln)
  have HIM := Lib.hid (fun W hi hT => implColourMany_any m q a1 c1 zs W hi hT hln)
  obtain ⟨qs, hqs⟩ : ∃ qs, qs = firstCZ m zs q := ⟨_, rfl⟩
  obtain ⟨K, hK⟩ : ∃ K, K = firstCB m zs q := ⟨_, rfl⟩
  rw [← hqs] at HI HSP hql HFF
  rw [← hK] at HI HSP HFF
  clear hqs hK
  go_wp2_with fail
  refine (HI.out _ f_f_1.out.ints (HT.out.below B1.out HT.out.lt)).mono ?_
  rintro e w2 ⟨a2, c2, rfl, ho2, hb2⟩
  have G2 := Lib.hid (own_ints ho2)
  have B2 := Lib.hid (B1.out.trans (hb2.mono B1.out.size))
  have f_f_2 := Lib.hid (f_f_1.out.step hb2)
  clear ho2 hb2 B1 f_f_1
  clear f_0 f_1
  have f_0 := f_f_2.out.x0
  have f_1 := f_f_2.out.x1
  go_wp2_with fail
  refine (HSP.out _ f_f_2.out.ints).mono ?_
  rintro e w3 ⟨a3, c3, rfl, ho3, hb3⟩
  have G3 := Lib.hid (own_ints ho3)
  have B3 := Lib.hid (B2.out.trans (hb3.mono B2.out.size))
  have f_f_3 := Lib.hid (f_f_2.out.step hb3)
  have l_lo_3 := Lib.hid (G2.out.step hb3)
  clear ho3 hb3 B2 f_f_2 G2
  clear f_0 f_1
  have f_0 := f_f_3.out.x0
  have f_1 := f_f_3.out.x1
  clear HI HSP
  cases K
  · clear HFF HIM
    go_wp2_with fail
    refine (sameInts_any _ _ _ _ _ _ _ l_lo_3.out G3.out hql hql).mono ?_
    rintro e w4 ⟨rfl, hb4⟩
    rw [sameB_refl]
    have B4 := Lib.hid (B3.out.trans (hb4.mono B3.out.size))
    have f_f_4 := Lib.hid (f_f_3.out.step hb4)
    have l_lo_4 := Lib.hid (l_lo_3.out.step hb4)
    have l_lw_4 := Lib.hid (G3.out.step hb4)
    clear hb4 B3 f_f_3 l_lo_3 G3
    clear f_0 f_1
    go_wp2_with fail
    refine (sameInts_any _ _ _ _ _ _ _ l_lo_4.out l_lw_4.out hql hql).mono ?_
    rintro e w5 ⟨rfl, hb5⟩
    rw [sameB_refl]
    have B5 := Lib.hid (B4.out.trans (hb5.mono B4.out.size))
    clear hb5 B4 f_f_4 l_lo_4 l_lw_4
    go_wp2
    go_ret
    exact ⟨rfl, B5.out⟩
  · obtain ⟨k, p, rfl, rfl, hk1, hk6, hp4, hl8, hz63, hqk, hq0, hpos, hok, hout, hcol, htwo⟩ := HFF.out rfl
    rw [hok, hout] at HIM
    have HZ63 := Lib.hid hz63
    have HQK := Lib.hid hqk
    have HQ0 := Lib.hid hq0
    have HCOL := Lib.hid hcol
    have HTWO := Lib.hid htwo
    have hle := cntCM_le k zs p
    have hpw6 : p ^ k ≤ 4096 := Nat.le_trans (Nat.pow_le_pow_left hp4 k) (Nat.le_trans (Nat.pow_le_pow_right (n := 4) (by decide) hk6) (by decide))
    obtain ⟨A, hA⟩ : ∃ A, A = cntCM k zs p := ⟨_, rfl⟩
    rw [← hA] at HIM hpos hle
    have hA1 : (0 : Int) < (A : Int) := by omega
    have hA4 : (A : Int) ≤ 4096 := by omega
    obtain ⟨N, hN⟩ : ∃ N, N = zs.length := ⟨_, rfl⟩
    have HN := Lib.hid hN
    obtain ⟨L, hL⟩ : ∃ L, L = qs.length := ⟨_, rfl⟩
    have HL := Lib.hid hL
    have HLK : Hid (L = k) := Lib.hid (hL.trans hqk)
    clear HFF hok hout hz63 hqk hq0 hcol htwo hA hpos
    go_wp2_with fail
    refine (sameInts_any _ _ _ _ _ _ _ l_lo_3.out G3.out hql hql).mono ?_
    rintro e w4 ⟨rfl, hb4⟩
    rw [sameB_refl]
    have B4 := Lib.hid (B3.out.trans (hb4.mono B3.out.size))
    have f_f_4 := Lib.hid (f_f_3.out.step hb4)
    have l_lo_4 := Lib.hid (l_lo_3.out.step hb4)
    clear hb4 B3 f_f_3 l_lo_3 G3
    clear f_0 f_1
    have f_0 := f_f_4.out.x0
    have f_1 := f_f_4.out.x1
    have HM4 := Lib.hid (HIM.out w4 f_f_4.out.ints (HT.out.below B4.out HT.out.lt))
    have HI4 := Lib.hid f_f_4.out.ints
    have hN8 : N ≤ 8 := by omega
    rw [← hN] at f_1 HM4 hl hl8
    rw [← hN, ← hL]
    obtain rfl : L = k := HLK.out
    clear hN hL hln hql HIM
    go_wp2
    go_loop [9] (fun s9 => ∃ i : Nat, i ≤ N ∧ s9 = .int .i64 (i : Int)) (fun s9 => N - (intOf s9).toNat)
    case atStart => exact ⟨0, Nat.zero_le _, rfl⟩
    case round =>
      obtain ⟨i, hi, rfl⟩ := hrel
      by_cases hlt : i < N
      · have hiI : (i : Int) < (N : Int) := by omega
        have hi0 : (0 : Int) ≤ (i : Int) := by omega
        have HT2 := Lib.hid (HTWO.out i (by rw [← HN.out]; exact hlt))
        go_wp2
        go_loop [10, 11] (fun s10 s11 => ∃ v S : Nat, v ≤ L ∧ s11 = .int .i64 (v : Int) ∧ s10 = .int .i64 (S : Int) ∧ S = seenS qs (zs[i]?.getD 0) v) (fun _ s11 => L - (intOf s11).toNat)
        case atStart => exact ⟨0, 0, Nat.zero_le _, rfl, rfl, rfl⟩
        case round =>
          obtain ⟨v, S, hv, rfl, rfl, hS⟩ := hrel
          have hS64 : S < 64 := by rw [hS]; exact seen_lt (fun u => by have := HCOL.out u; omega) v
          have HS := Lib.hid hS
          clear hS
          by_cases hvl : v < L
          · have hvI : (v : Int) < (L : Int) := by omega
            have hv0 : (0 : Int) ≤ (v : Int) := by omega
            have hv64 : (v : Int) < 64 := by omega
            obtain ⟨bz, oz, rfl, hbz, hcz⟩ := HI4.out.at_ (k := i) (by rw [← HN.out]; exact hlt)
            have hzm := at_in (xs := zs) (k := i) (by rw [← HN.out]; exact hlt)
            obtain ⟨hz0, hz63⟩ := HZ63.out _ hzm
            obtain ⟨z, hz⟩ : ∃ z, z = zs[i]?.getD 0 := ⟨_, rfl⟩
            rw [← hz] at HS hcz hz0 hz63 ⊢
            have hbt := bt_int hz0 (by omega) (show v < 6 by omega)
            clear hz hzm
            cases hb : Bt v z
            · rw [hb] at hbt
              simp only [Bool.false_eq_true, if_false] at hbt
              have HE : Hid (S = seenS qs z (v + 1)) := Lib.hid (by rw [HS.out, seenS, if_neg (by rw [hb]; simp)])
              clear hb
              go_wp2
              go_round
              case rel => exact ⟨v + 1, S, by omega, by go_num, rfl, HE.out⟩
              case measure => simp [intOf]; omega
            · rw [hb] at hbt
              simp only [if_true] at hbt
              obtain ⟨bq, oq, rfl, hbq, hcq⟩ := l_lo_4.out.at_ (k := v) (by rw [← HL.out]; exact hvl)
              obtain ⟨c0, c4⟩ := HCOL.out v
              obtain ⟨Y, hY⟩ : ∃ Y : Nat, qs[v]?.getD 0 = (Y : Int) := ⟨(qs[v]?.getD 0).toNat, by omega⟩
              rw [hY] at hcq c0 c4
              have hY4 : Y < 4 := by omega
              have HE : Hid (S ||| 2 ^ Y = seenS qs z (v + 1)) := Lib.hid (by rw [seenS, if_pos hb, hY, ← HS.out]; rfl)
              have hor := orP_at hS64 (show Y < 6 by omega)
              have hp2 := p2_small Y (by omega)
              have hpw : IntKind.i64.wrap ((2 : Int) ^ Y) = (2 : Int) ^ Y := by rw [IntKind.wrap_i64]; omega
              have hY64 : (Y : Int) < 64 := by omega
              clear hb hY
              go_wp2
              go_round
              case rel => exact ⟨v + 1, S ||| 2 ^ Y, by omega, by go_num, rfl, HE.out⟩
              case measure => simp [intOf]; omega
          · obtain rfl : v = L := by omega
            have HSZ := Lib.hid (fun W => lawSizeW_any S W (by omega))
            rw [← HS.out] at HT2
            obtain ⟨C, hC⟩ : ∃ C, C = cntK 8 S := ⟨_, rfl⟩
            rw [← hC] at HSZ HT2
            have hC2 : (2 : Int) ≤ (C : Int) := by have := HT2.out; omega
            clear hC
            go_wp2_with fail
            refine (HSZ.out _).mono ?_
            rintro e w5 ⟨rfl, rfl⟩
            go_wp2
            go_round
            case rel => exact ⟨i + 1, by omega, by go_num⟩
            case measure => simp [intOf]; omega
      · obtain rfl : i = N := by omega
        go_wp2_with fail
        refine HM4.out.mono ?_
        rintro e w5 ⟨rfl, hb5⟩
        have B5 := Lib.hid (B4.out.trans (hb5.mono B4.out.size))
        have f_f_5 := Lib.hid (f_f_4.out.step hb5)
        have l_lo_5 := Lib.hid (l_lo_4.out.step hb5)
        clear hb5 B4 f_f_4 l_lo_4 HI4 HM4
        clear f_0 f_1
        have f_0 := f_f_5.out.x0
        have f_1 := f_f_5.out.x1
        obtain ⟨bq, oq, rfl, hbq, hcq⟩ := l_lo_5.out.at_ (k := 0) (by rw [← HL.out]; omega)
        rw [HQ0.out, Nat.add_zero] at hcq
        have hL1 : (0 : Int) < (L : Int) := by omega
        clear l_lo_5 f_f_5
        go_wp2
        all_goals (go_ret; exact ⟨rfl, B5.out⟩)

end Go.Proofs.YtnpfdgbbcapnkaaDoor
