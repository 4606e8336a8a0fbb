/- It is proved what the model's MeetClose returns; conditions: those of each statement. -/
import Derived.RowKit
import Derived.Laws.CopyRow
import Derived.Lib.SlBuf
import Derived.Deep.QuietTactic
import Derived.RangeFuncNested
import Derived.RangeFuncBound
import Derived.RangeFuncCalls
import Derived.RangeFuncLeaves
import Derived.RangeFuncBox
import Derived.RangeFuncWrites
import Derived.StillTailTactics
import Derived.Maps.OwnIn
import Derived.Maps.Ext
import Derived.DeepKeys4
import Derived.MapKept
import Derived.Test.YtckbhhaigpajpaaRows
import Derived.WalkKit
import Derived.WalkSpells
import Derived.ProofKit
import Derived.OpenShut
import Derived.ShutString
import Derived.ChangeOld
import Derived.Below
import Derived.Deep.RegionHeld3
import Derived.BigQuiet
import Derived.Lib.Hide
import Derived.Lib.SmallJoins
import Derived.Outline
import Derived.Laws.MakeOwn
import Derived.Laws.OwnMore
import Derived.IntWalk
import Derived.Maps.AppendAt
import Derived.Deep.RegionLaw
import Derived.Deep.AppendLies
import Derived.Lib.AppendZeros
import Derived.OwnWalk
import Derived.Lib.SlicesCompact
import Derived.Lib.OwnBridge
import Derived.OrdersIn
import Derived.TacticsIn
import Derived.Shelf.Sort.Plain
import Derived.Shelf.Slices.In.SortNone
import Derived.Shelf.Slices.CompactI
import Derived.Ground.Names2Prog
import Derived.Lib.SliceRun
import Derived.Laws.BitsAllLaws
import Derived.Shelf.RegionOpen
import Derived.Shelf.Abstract
import Derived.OwnWalkIn
import Derived.TacticsInMore
import Derived.LoopNIn
import Derived.LoopIn
import Derived.StillTail
import Derived.StillTactics
import Derived.Shelf.Spec.TrailingZeros
import Derived.Deep.LoopGhost
import Derived.Test.YtckbhhaigpajpaaRaaa
import Derived.Test.YtckbhhaigpajpaaRaab
import Derived.Test.YtckbhhaigpajpaaRaad
import Derived.Test.YtckbhhaigpajpaaRaae
import Derived.Test.YtckbhhaigpajpaaHa
import Derived.Test.YtckbhhaigpajpaaRaah
import Derived.Test.YtckbhhaigpajpaaRaaj
import Derived.Test.YtckbhhaigpajpaaRaac
import Derived.Test.YtckbhhaigpajpaaRaaf
import Derived.Test.YtckbhhaigpajpaaXm
namespace Go.Proofs.Ytckbhhaigpajpaa
open Go.RowKit

def cloB (m : Int) (zs : List Int) : Bool := famIn m zs && decide ((clTo zs zs.length).length ≤ 8)
def cloM (m : Int) (zs : List Int) : Int := if cloB m zs then m else 0
def cloZ (m : Int) (zs : List Int) : List Int := if cloB m zs then clTo zs zs.length else []
theorem clTo_asc (zs : List Int) : ∀ i, i ≤ zs.length → Asc (clTo zs i)
  | 0, _ => List.Pairwise.nil
  | i + 1, h => by
    rw [clTo_succ zs (by omega)]
    exact simpZ_asc _

theorem clTo_is {m : Nat} (hm : m ≤ 6) {zs : List Int} (hS : Sets m zs) {ys : List Int} (ha : Asc ys) (h : ∀ z, z ∈ ys ↔ ∃ q, 1 ≤ q ∧ q < 2 ^ zs.length ∧ z = ((comTo m zs q zs.length : Nat) : Int)) : ys = clTo zs zs.length :=
  asc_ext _ _ ha (clTo_asc zs _ (Nat.le_refl _)) (fun z => by rw [h, clTo_mem hm hS _ (Nat.le_refl _)])

set_option maxRecDepth 100000 in
set_option maxHeartbeats 4000000 in
theorem specMeetClose_any (m : Int) (a : Option Addr) (c : Nat) (zs : List Int) (w : World) (ha : Ints w w.heap.size a zs) (hx : zs.length ≤ 1048576) :
    Calls Try.prog 7 #[.agg #[.int .i64 m, .slice a zs.length c]] w (RetFB w (cloM m zs) (cloZ m zs) (cloB m zs)) := by
  obtain ⟨W0, hW0, q0, q1, hs0, hb0⟩ : ∃ W0, W0 = (w.alloc (.cells #[.int .i64 m, .slice a zs.length c] 25)).alloc (.cells #[.int .i64 0, .slice none 0 0] 25) ∧ HasBlk W0 w.heap.size #[.int .i64 m, .slice a zs.length c] 25 ∧ HasBlk W0 (w.heap.size + 1) #[.int .i64 0, .slice none 0 0] 25 ∧ W0.heap.size = w.heap.size + 2 ∧ Below w.heap.size w W0 :=
    ⟨_, rfl, alloc2_0 w _ _, alloc2_1 w _ _, by simp, below2 w _ _⟩
  have HA := Lib.hid ha
  have HFI := Lib.hid (specFamilyIn_any m a c zs W0 ((ha.below hb0).mono hb0.size) hx)
  have x0 := (blk_cell q0 0).trans (cell2_0 _ _)
  have x1 := (blk_cell q0 1).trans (cell2_1 _ _)
  have HQ0 := Lib.hid q0
  have HQ1 := Lib.hid q1
  have HB0 := Lib.hid hb0
  clear ha q0 q1 hb0
  cases hf : famIn m zs
  · have HF := Lib.hid hf
    have HZ : Hid (cloB m zs = false) := Lib.hid (by unfold cloB; rw [hf]; rfl)
    clear hf
    go_enter Try.func7, Try.ntmps7
    rw [hW0] at x0 x1
    go_wp2_with fail
    rw [← hW0]
    refine HFI.out.mono ?_
    rintro e w1 ⟨rfl, hb1⟩
    rw [HF.out]
    have hq1 := (hb1.block _ (by omega)).trans HQ1.out
    have HQ11 : Hid (HasBlk w1 (w.heap.size + 1) #[.int .i64 0, .slice none 0 0] 25) := Lib.hid hq1
    have HB1 := Lib.hid (HB0.out.trans (hb1.mono HB0.out.size))
    clear hb1 hq1 hW0 x0 x1
    go_wp2_with fail
    refine (l1None_any _).mono ?_
    rintro e w2 ⟨a2, c2, rfl, ho2, hb2⟩
    have q2 : HasBlk w2 (w.heap.size + 1) #[.int .i64 0, .slice none 0 0] 25 := (hb2.block _ (lt_of_some HQ11.out)).trans HQ11.out
    have d0 := (blk_cell q2 0).trans (cell2_0 _ _)
    have d1 := (blk_cell q2 1).trans (cell2_1 _ _)
    have f0 := blk_frozen q2 0
    have f1 := blk_frozen q2 1
    have hs1 : w.heap.size + 1 < w1.heap.size := lt_of_some HQ11.out
    have HO2 := Lib.hid ho2
    have HB2 := Lib.hid (HB1.out.trans (hb2.mono HB1.out.size))
    clear ho2 hb2 q2
    go_wp2
    refine bodyPost_ret (v := .tuple #[.agg #[.int .i64 0, .slice a2 ([] : List Int).length c2], .bool false]) (by simp [results, Try.results7, go_sem, d0, d1]) rfl ?_
    refine ⟨a2, c2, by unfold cloM cloZ; rw [HZ.out]; rfl, ?_, ?_⟩
    · unfold cloZ
      rw [HZ.out, if_neg (by decide)]
      exact own_mono (ownsRow_setCell_below (ownsRow_setCell_below HO2.out (a := ⟨w.heap.size + 1, 0, none⟩) hs1 _) (a := ⟨w.heap.size + 1, 1, none⟩) hs1 _) (by omega)
    · exact (HB2.out.setCell (p := ⟨w.heap.size + 1, 0, none⟩) (Nat.le_succ _) _).setCell (p := ⟨w.heap.size + 1, 1, none⟩) (Nat.le_succ _) _
  · have HF := Lib.hid hf
    obtain ⟨k, rfl, hk1, hk6, hset, hl8⟩ := fam_nat2 hf
    have HSET := Lib.hid hset
    have HCO : Hid (∀ (p : Nat) W, p < 256 → Ints W W.heap.size a zs → Calls Try.prog 23 #[.agg #[.int .i64 (k : Int), .slice a zs.length c], .int .i64 (p : Int)] W fun e w' => e = .returned (.int .i64 ((comTo k zs p zs.length : Nat) : Int)) ∧ Below W.heap.size W w') := Lib.hid fun p W hp h => l8Common_any k hk1 hk6 a c zs p hp W h hl8 hset
    have HCL : Hid (∀ ys : List Int, Asc ys → (∀ z, z ∈ ys ↔ ∃ q, 1 ≤ q ∧ q < 2 ^ zs.length ∧ z = ((comTo k zs q zs.length : Nat) : Int)) → ys = clTo zs zs.length) := Lib.hid fun ys h1 h2 => clTo_is hk6 hset h1 h2
    have HCB : Hid (cloB (k : Int) zs = decide ((clTo zs zs.length).length ≤ 8)) := Lib.hid (by unfold cloB; rw [hf]; rfl)
    obtain ⟨n, hn⟩ : ∃ n, n = zs.length := ⟨_, rfl⟩
    obtain ⟨P, hP⟩ : ∃ P, P = 2 ^ n := ⟨_, rfl⟩
    have hn8 : n ≤ 8 := by omega
    have hP256 : P ≤ 256 := by rw [hP]; exact Nat.pow_le_pow_right (n := 2) (by decide) hn8
    have hP1 : 1 ≤ P := by rw [hP]; exact Nat.one_le_two_pow
    have hP0 : (2 : Int) ^ n = (P : Int) := by rw [hP, cast_pow2]
    have HPW : Hid (IntKind.i64.wrap ((2 : Int) ^ n) = (P : Int)) := Lib.hid (by rw [hP0, IntKind.wrap_i64]; omega)
    have HP := Lib.hid hP0
    have hn64 : (n : Int) < 64 := by omega
    have HN := Lib.hid hn
    rw [← hn] at HCO HCL HFI HQ0 x1 hW0 ⊢
    rw [← hP] at HCL
    rw [← hn] at HCB
    clear hf hset hn hP hP0 hl8
    go_enter Try.func7, Try.ntmps7
    rw [hW0] at x0 x1
    go_wp2_with fail
    rw [← hW0]
    refine HFI.out.mono ?_
    rintro e w1 ⟨rfl, hb1⟩
    rw [HF.out]
    have hs1 : w.heap.size + 2 ≤ w1.heap.size := by have := hb1.size; omega
    have HR0 : Hid (HasBlk w1 w.heap.size #[.int .i64 (k : Int), .slice a n c] 25) := Lib.hid ((hb1.block _ (by omega)).trans HQ0.out)
    have HR1 : Hid (HasBlk w1 (w.heap.size + 1) #[.int .i64 0, .slice none 0 0] 25) := Lib.hid ((hb1.block _ (by omega)).trans HQ1.out)
    have HB1 := Lib.hid (HB0.out.trans (hb1.mono HB0.out.size))
    have HI1 := Lib.hid ((HA.out.below HB1.out).mono HB1.out.size)
    have HST : Hid (Asc ([] : List Int) ∧ (∀ z, z ∈ ([] : List Int) ↔ ∃ q, 1 ≤ q ∧ q < 1 ∧ z = ((comTo k zs q n : Nat) : Int)) ∧ OwnN (w1.alloc (.cells #[] 3)) w1.heap.size (some ⟨w1.heap.size, 0, none⟩) 0 0 [] ∧ Below w1.heap.size w1 (w1.alloc (.cells #[] 3))) :=
      Lib.hid ⟨List.Pairwise.nil, fun z => ⟨fun h => by simp at h, fun ⟨q, h1, h2, _⟩ => by omega⟩, own_empty (alloc_new w1 _) (Nat.le_refl _), below1 _ _⟩
    clear hb1 hW0 x0 x1
    go_wp2
    go_loopw [4, 5] (fun s4 s5 wr => ∃ (p g nn c' : Nat) (ys : List Int), 1 ≤ p ∧ p ≤ P ∧ s5 = .int .i64 (p : Int) ∧ s4 = .slice (some ⟨g, 0, none⟩) nn c' ∧ nn < p ∧ Hid (Asc ys ∧ (∀ z, z ∈ ys ↔ ∃ q, 1 ≤ q ∧ q < p ∧ z = ((comTo k zs q n : Nat) : Int)) ∧ OwnN wr w1.heap.size (some ⟨g, 0, none⟩) nn c' ys ∧ Below w1.heap.size w1 wr)) (fun _ s5 _ => P - (intOf s5).toNat)
    case atStart => exact ⟨1, _, 0, 0, [], Nat.le_refl _, hP1, rfl, rfl, by omega, HST⟩
    case round =>
      obtain ⟨p, g, nn, c', ys, hp1, hpP, rfl, rfl, hnn, HS⟩ := hrel
      clear HST
      have hb := HS.out.2.2.2
      have x0 := (blk_cell ((hb.block _ (lt_of_some HR0.out)).trans HR0.out) 0).trans (cell2_0 _ _)
      have x1 := (blk_cell ((hb.block _ (lt_of_some HR0.out)).trans HR0.out) 1).trans (cell2_1 _ _)
      have HI := Lib.hid ((HI1.out.below hb).mono hb.size)
      have hp0 : (0 : Int) ≤ (p : Int) := by omega
      have hp256 : (p : Int) ≤ 256 := by omega
      have hpw := HPW.out
      have hpx := HP.out
      by_cases hlt : p < P
      · have hpI : (p : Int) < (P : Int) := by omega
        have HC1 := Lib.hid (HCO.out p wr (by omega) HI.out)
        clear hb
        obtain ⟨X, hX⟩ : ∃ X : Int, X = ((comTo k zs p n : Nat) : Int) := ⟨_, rfl⟩
        have HX := Lib.hid hX
        rw [← hX] at HC1
        clear hX
        go_wp2_with fail
        refine HC1.out.mono ?_
        rintro e w3 ⟨rfl, hb3⟩
        have HO := Lib.hid (show OwnN w3 w1.heap.size (some ⟨g, 0, none⟩) nn c' ys from HS.out.2.2.1.kept (only_of_below hb3 none) (.inr (fun e => by cases e)))
        have HB3 : Hid (Below w1.heap.size w1 w3) := Lib.hid (HS.out.2.2.2.trans (hb3.mono HS.out.2.2.2.size))
        have HMS : Hid (∀ z, (z ∈ ys ∨ z = X) ↔ ∃ q, 1 ≤ q ∧ q < p + 1 ∧ z = ((comTo k zs q n : Nat) : Int)) := Lib.hid fun z => by
          rw [HS.out.2.1 z]
          constructor
          · rintro (⟨q, h1, h2, h3⟩ | h)
            · exact ⟨q, h1, by omega, h3⟩
            · exact ⟨p, hp1, by omega, by rw [h, HX.out]⟩
          · rintro ⟨q, h1, h2, h3⟩
            by_cases hq : q = p
            · right; rw [h3, hq, HX.out]
            · exact .inl ⟨q, h1, by omega, h3⟩
        clear hb3
        go_wp2_with fail
        refine (l1Put_any g 0 nn c' ys _ _ HO.out.len HO.out.ints (by omega) HO.out.cap_le).mono ?_
        rintro e w4 ⟨t, ht, hge, h3⟩
        have HG := Lib.hid hge
        clear hge
        rcases h3 with ⟨k', hpk, hkx, rfl, rfl⟩ | ⟨hlow, a', c2, rfl, ho3, hb4⟩
        · have HR : Hid (Asc ys ∧ (∀ z, z ∈ ys ↔ ∃ q, 1 ≤ q ∧ q < p + 1 ∧ z = ((comTo k zs q n : Nat) : Int)) ∧ OwnN w4 w1.heap.size (some ⟨g, 0, none⟩) nn c' ys ∧ Below w1.heap.size w1 w4) := Lib.hid ⟨HS.out.1, fun z => by
            rw [← HMS.out z]
            constructor
            · exact .inl
            · rintro (h | h)
              · exact h
              · have hk' : k' < ys.length := by rw [HO.out.len]; omega
                rw [h, ← hkx]; simp [hk'], HO.out, HB3.out⟩
          clear hkx
          go_wp2
          go_roundw
          case rel => exact ⟨p + 1, g, nn, c', ys, by omega, by omega, by go_num, rfl, by omega, HR⟩
          case measure => simp [intOf]; omega
        · obtain ⟨g', rfl, -, -⟩ := ho3.addr (by omega)
          have HR : Hid (Asc (ys.take t ++ [X] ++ ys.drop t) ∧ (∀ z, z ∈ ys.take t ++ [X] ++ ys.drop t ↔ ∃ q, 1 ≤ q ∧ q < p + 1 ∧ z = ((comTo k zs q n : Nat) : Int)) ∧ OwnN w4 w1.heap.size (some ⟨g', 0, none⟩) (nn + 1) c2 (ys.take t ++ [X] ++ ys.drop t) ∧ Below w1.heap.size w1 w4) := Lib.hid ⟨put_asc HO.out.len ht HS.out.1 (fun j h1 h2 => HG.out j h1 h2) (fun k' e => hlow k' e),
            fun z => by rw [put_mem, HMS.out z], ho3.base HB3.out.size, HB3.out.trans (hb4.mono HB3.out.size)⟩
          clear hlow ho3 hb4
          go_wp2
          go_roundw
          case rel => exact ⟨p + 1, g', nn + 1, c2, _, by omega, by omega, by go_num, rfl, by omega, HR⟩
          case measure => simp [intOf]; omega
      · obtain rfl : p = P := by omega
        have HYE : Hid (ys = clTo zs n) := Lib.hid (HCL.out ys HS.out.1 HS.out.2.1)
        have HYL : Hid (ys.length = nn) := Lib.hid HS.out.2.2.1.len
        have HQE : Hid (HasBlk wr (w.heap.size + 1) #[.int .i64 0, .slice none 0 0] 25) := Lib.hid ((hb.block _ (lt_of_some HR1.out)).trans HR1.out)
        have HBE := Lib.hid (HB1.out.trans (hb.mono HB1.out.size))
        have HOE := Lib.hid HS.out.2.2.1
        have hnn0 : (0 : Int) ≤ (nn : Int) := by omega
        clear hb HS
        by_cases h8 : nn ≤ 8
        · have h8I : ¬ (nn : Int) > 8 := by omega
          have HZ : Hid (cloB (k : Int) zs = true) := Lib.hid (by rw [HCB.out, ← HYE.out, HYL.out]; exact decide_eq_true h8)
          go_wp2_with fail
          refine (l1With_any _ _ _ _ _ _ _ _).mono ?_
          rintro e w2 ⟨rfl, hb2⟩
          have q2 : HasBlk w2 (w.heap.size + 1) #[.int .i64 0, .slice none 0 0] 25 := (hb2.block _ (lt_of_some HQE.out)).trans HQE.out
          have d0 := (blk_cell q2 0).trans (cell2_0 _ _)
          have d1 := (blk_cell q2 1).trans (cell2_1 _ _)
          have f0 := blk_frozen q2 0
          have f1 := blk_frozen q2 1
          have HO2 : Hid (OwnN w2 w1.heap.size (some ⟨g, 0, none⟩) nn c' ys) := Lib.hid (HOE.out.kept (only_of_below hb2 none) (.inr (fun e => by cases e)))
          have HB2 := Lib.hid (HBE.out.trans (hb2.mono HBE.out.size))
          clear hb2 q2
          go_wp2
          refine bodyPost_ret (v := .tuple #[.agg #[.int .i64 (k : Int), .slice (some ⟨g, 0, none⟩) nn c'], .bool true]) (by simp [results, Try.results7, go_sem, d0, d1]) rfl ?_
          have hz : cloZ (k : Int) zs = ys := by unfold cloZ; rw [HZ.out, if_pos rfl, ← HN.out, ← HYE.out]
          refine ⟨some ⟨g, 0, none⟩, c', by rw [hz, HYL.out, HZ.out]; unfold cloM; rw [HZ.out]; rfl, ?_, ?_⟩
          · rw [hz, HYL.out]
            unfold OwnI
            rw [HYL.out]
            exact ownsRow_base (ownsRow_setCell_below (ownsRow_setCell_below HO2.out (a := ⟨w.heap.size + 1, 0, none⟩) (by show w.heap.size + 1 < w1.heap.size; omega) _) (a := ⟨w.heap.size + 1, 1, none⟩) (by show w.heap.size + 1 < w1.heap.size; omega) _) (by omega)
          · exact (HB2.out.setCell (p := ⟨w.heap.size + 1, 0, none⟩) (Nat.le_succ _) _).setCell (p := ⟨w.heap.size + 1, 1, none⟩) (Nat.le_succ _) _
        · have h8I : (nn : Int) > 8 := by omega
          have HZ : Hid (cloB (k : Int) zs = false) := Lib.hid (by rw [HCB.out, ← HYE.out, HYL.out]; exact decide_eq_false h8)
          go_wp2_with fail
          refine (l1None_any _).mono ?_
          rintro e w2 ⟨a2, c2, rfl, ho2, hb2⟩
          have q2 : HasBlk w2 (w.heap.size + 1) #[.int .i64 0, .slice none 0 0] 25 := (hb2.block _ (lt_of_some HQE.out)).trans HQE.out
          have d0 := (blk_cell q2 0).trans (cell2_0 _ _)
          have d1 := (blk_cell q2 1).trans (cell2_1 _ _)
          have f0 := blk_frozen q2 0
          have f1 := blk_frozen q2 1
          have hsE : w.heap.size + 1 < wr.heap.size := lt_of_some HQE.out
          have HO2 := Lib.hid ho2
          have HB2 := Lib.hid (HBE.out.trans (hb2.mono HBE.out.size))
          clear ho2 hb2 q2
          go_wp2
          refine bodyPost_ret (v := .tuple #[.agg #[.int .i64 0, .slice a2 ([] : List Int).length c2], .bool false]) (by simp [results, Try.results7, go_sem, d0, d1]) rfl ?_
          refine ⟨a2, c2, by unfold cloM cloZ; rw [HZ.out]; rfl, ?_, ?_⟩
          · unfold cloZ
            rw [HZ.out, if_neg (by decide)]
            exact own_mono (ownsRow_setCell_below (ownsRow_setCell_below HO2.out (a := ⟨w.heap.size + 1, 0, none⟩) hsE _) (a := ⟨w.heap.size + 1, 1, none⟩) hsE _) (by omega)
          · exact (HB2.out.setCell (p := ⟨w.heap.size + 1, 0, none⟩) (Nat.le_succ _) _).setCell (p := ⟨w.heap.size + 1, 1, none⟩) (Nat.le_succ _) _

end Go.Proofs.Ytckbhhaigpajpaa

/- It is proved what ownNames and keeping return; conditions: those of each statement. -/
namespace Go.Proofs.Ytckbhhaigpajpaa
open Go.RowKit Go.Shelf Go.Maps

attribute [local go_sem] Oper.semAt_some

theorem slice_form {w' : World} {B k : Nat} {v : Value} {ys : List Value} (h : w'.ownsRow B 3 1 v k ys) : ∃ a c, v = .slice a k c := by
  rcases h.2 with ⟨rfl, rfl⟩ | ⟨g, cap, cur, rfl, _⟩
  · exact ⟨none, 0, rfl⟩
  · exact ⟨_, _, rfl⟩

end Go.Proofs.Ytckbhhaigpajpaa
