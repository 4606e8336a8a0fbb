/- It is proved what FamilyDual of the model returns; conditions: those of each statement. -/
import Derived.StillTailTactics
import Derived.Test.YtacglafoahmcnaaDoorRows
import Derived.WalkKit
import Derived.WalkSpells
import Derived.ProofKit
import Derived.OpenShut
import Derived.ShutString
import Derived.ChangeOld
import Derived.Below
import Derived.Deep.RegionHeld3
import Derived.Deep.QuietTactic
import Derived.BigQuiet
import Derived.Lib.Hide
import Derived.Lib.SmallJoins
import Derived.Outline
import Derived.Laws.MakeOwn
import Derived.Laws.OwnMore
import Derived.IntWalk
import Derived.RangeFuncNested
import Derived.RangeFuncBound
import Derived.RangeFuncCalls
import Derived.RangeFuncLeaves
import Derived.RangeFuncBox
import Derived.Shelf.Abstract
import Derived.Shelf.RegionOpen
import Derived.OwnWalkIn
import Derived.TacticsInMore
import Derived.LoopNIn
import Derived.LoopIn
import Derived.Maps.AppendAt
import Derived.Deep.AppendLies
import Derived.OwnWalk
import Derived.StillTail
import Derived.StillTactics
import Derived.OrdersIn
import Derived.TacticsIn
import Derived.Shelf.Spec.TrailingZeros
import Derived.Test.YtacglafoahmcnaaDoorRaaa
import Derived.Test.YtacglafoahmcnaaDoorRaac
import Derived.Test.YtacglafoahmcnaaDoorRaaq
import Derived.Test.YtacglafoahmcnaaDoorRaab
import Derived.Test.YtacglafoahmcnaaDoorRaad
import Derived.Test.YtacglafoahmcnaaDoorRaae
import Derived.Test.YtacglafoahmcnaaDoorTb
import Derived.Test.YtacglafoahmcnaaDoorTd
import Derived.Test.YtacglafoahmcnaaDoorRaag
namespace Go.Proofs.YtacglafoahmcnaaDoor
open Go.RowKit

/-- The row while the club at place i is told: the first j members are through. -/
def dualS (m : Nat) (ps : List (Nat × Nat)) (i s j : Nat) : List Int := (List.range m).map fun v => ((if v < j then dualBits ps v ||| (((s >>> v) &&& 1) * 2 ^ i) else dualBits ps v : Nat) : Int)

theorem dualS_zero (m : Nat) (ps : List (Nat × Nat)) (i s : Nat) : dualS m ps i s 0 = dualL m ps := by simp [dualS, dualL]
theorem dualS_at (m : Nat) (ps : List (Nat × Nat)) (i s j : Nat) (h : j < m) : (dualS m ps i s j)[j]? = some ((dualBits ps j : Nat) : Int) := by simp [dualS, h]
theorem dualS_all (m : Nat) (ps : List (Nat × Nat)) (i s : Nat) (hm : m ≤ 6) (hs : s < 64) : dualS m ps i s m = dualL m (ps ++ (mem s).map fun u => (i, u)) := by
  apply List.ext_getElem
  · simp [dualS, dualL]
  · intro v h1 h2
    have hv : v < m := by simpa [dualS] using h1
    simp only [dualS, dualL, List.getElem_map, List.getElem_range, if_pos hv]
    rw [mem_bit s hs v (by omega), dualBits_club]
    split <;> simp

theorem dualS_succ (m : Nat) (ps : List (Nat × Nat)) (i s j : Nat) : dualS m ps i s (j + 1) = (dualS m ps i s j).set j (((dualBits ps j ||| (((s >>> j) &&& 1) * 2 ^ i) : Nat)) : Int) := by
  apply List.ext_getElem
  · simp [dualS]
  · intro v h1 h2
    have hv : v < m := by simpa [dualS] using h1
    simp only [dualS, List.getElem_map, List.getElem_range, List.getElem_set]
    by_cases h : j = v
    · subst h; simp
    · rw [if_neg h]
      have : (v < j + 1) ↔ (v < j) := by omega
      simp [this]

set_option maxRecDepth 100000 in
theorem or1_fin : ∀ x : Fin 256, ∀ e : Fin 2, ∀ p : Fin 8, bits BinOp.or IntKind.i64 (x.val : Int) ((e.val : Int) * 2 ^ p.val) = ((x.val ||| (e.val * 2 ^ p.val) : Nat) : Int) := by decide +kernel

theorem or1_at (x e p : Nat) (hx : x < 256) (he : e ≤ 1) (hp : p < 8) : bits BinOp.or IntKind.i64 (x : Int) ((e : Int) * 2 ^ p) = ((x ||| (e * 2 ^ p) : Nat) : Int) := or1_fin ⟨x, hx⟩ ⟨e, by omega⟩ ⟨p, hp⟩
theorem e2_small (e p : Nat) (he : e ≤ 1) (hp : p < 8) : (e : Int) * 2 ^ p ≤ 128 ∧ 0 ≤ (e : Int) * 2 ^ p := by
  obtain ⟨h1, h2⟩ := p2_small p hp
  obtain rfl | rfl : e = 0 ∨ e = 1 := by omega
  · simp
  · simp; omega

theorem prsP_lt8 (zs : List Int) (k : Nat) (hk : k ≤ 8) : ∀ x ∈ prsP (pairs zs k), x.1 < 8 := prsP_lt _ (by
  intro p hp
  obtain ⟨j, hj, rfl⟩ := List.mem_map.1 hp
  have := List.mem_range.1 hj
  show j < 8
  omega)

set_option maxRecDepth 100000 in
set_option maxHeartbeats 2000000 in
theorem specDual_yes (m : Nat) (a : Option Addr) (c : Nat) (zs : List Int) (w : World) (ha : Ints w w.heap.size a zs) (hx : zs.length ≤ 1048576) (hf : famIn (m : Int) zs = true) (h1 : 1 ≤ zs.length) (h6 : zs.length ≤ 6) :
    Calls Tryd.prog 18 #[.agg #[.int .i64 (m : Int), .slice a zs.length c]] w (RetFB w zs.length (dualL m (prsP (pairs zs zs.length))) true) := by
  obtain ⟨i0, hi0, hz0, hz1, hz2⟩ := info_parts Tryd.info3
  have HB0 := Lib.hid (below2 w (.cells #[.int .i64 (m : Int), .slice a zs.length c] 25) (.cells #[.int .i64 0, .slice none 0 0] 25))
  have HA := Lib.hid (ha.below HB0.out)
  have HI := Lib.hid ha
  have HF := Lib.hid hf
  have hPc := isClub_all hf
  obtain ⟨hm1, hm6, hl8, -⟩ := famIn_out hf
  have hm6' : m ≤ 6 := by omega
  obtain ⟨n, hn⟩ : ∃ n, n = zs.length := ⟨_, rfl⟩
  have HN := Lib.hid hn
  rw [← hn] at hx h1 h6
  rw [← hn]
  have hPn : ∀ k, k < n → IsClub m (k, zs[k]?.getD 0) := fun k hk => hPc k (by omega)
  clear hf ha hn hl8 hPc
  go_enter Tryd.func18, Tryd.ntmps18
  go_wp2_with fail
  rw [HN.out]
  refine (specFamilyIn_any _ _ _ zs _ (HA.out.mono (by simp; omega)) (by rw [← HN.out]; exact hx)).mono ?_
  rintro e w1 ⟨rfl, hb⟩
  rw [HF.out, ← HN.out]
  have b0 : w1.heap[w.heap.size]? = some (.cells #[.int .i64 (m : Int), .slice a n c] 25 (0, 0)) := (hb.block _ (by simp; omega)).trans ((alloc2_0 w _ _).trans (by rw [HN.out]))
  have b2 : w1.heap[w.heap.size + 1]? = some (.cells #[.int .i64 0, .slice none 0 0] 25 (0, 0)) := (hb.block _ (by simp)).trans (alloc2_1 w _ _)
  have x0 := blk_cell b0 0
  have x1 := blk_cell b0 1
  simp only [cell2_0, cell2_1] at x0 x1
  have xs : w.heap.size + 2 ≤ w1.heap.size := by have := hb.size; simpa using this
  have HB := Lib.hid (HB0.out.trans (hb.mono (by simp; omega)))
  have Q0 := Lib.hid b0
  have Q2 := Lib.hid b2
  have HIn : Hid (inB (n : Int) 1 6 = true) := Lib.hid (inB_true (by omega) (by omega))
  clear hb b0 b2
  go_wp2_with (first
    | (go_at_call 54; refine (l6In_any _ _ _ _).mono ?_; rintro e w' ⟨rfl, rfl⟩; rw [HIn.out])
    | (refine wpList_make_full _ rfl _ _ 23 rfl w1.heap.size 3 i0 _ 1 Tryd.underlying23 hi0 hz0 hz1 .i64 .i64 _ _ m rfl rfl rfl rfl (by rw [hz2]; omega) (by simp only [maxLen]; omega) (Nat.le_refl _) ?_; intro w2 hown hg))
  have HB1 : Hid (Below w1.heap.size w1 w2) := Lib.hid ((Below.refl _ _).grown hg (Nat.le_refl _) (by simp))
  have HBw : Hid (Below w.heap.size w w2) := Lib.hid (HB.out.trans (HB1.out.mono (by omega)))
  have HO1 : Hid (OwnN w2 w.heap.size (some ⟨w1.heap.size, 0, none⟩) m m (dualL m (prsP (pairs zs 0)))) := Lib.hid (by
    rw [show dualL m (prsP (pairs zs 0)) = List.replicate m 0 from dualL_nil m]
    have h1 := ownsRow_base hown (B := w.heap.size) (by omega)
    rw [show (Value.int .i64 0).cells = #[Value.int .i64 0] from rfl, toList_madeCells_one] at h1
    unfold OwnN
    simpa using h1)
  have hGl : w1.heap.size < w2.heap.size := by have := (World.ownsRow.lt hown _ rfl).2; simpa using this
  clear hown hg x0 x1
  go_loopw [5] (fun i wr => ∃ k : Nat, k ≤ n ∧ i = .int .i64 k ∧ OwnN wr w.heap.size (some ⟨w1.heap.size, 0, none⟩) m m (dualL m (prsP (pairs zs k))) ∧ Below w1.heap.size w2 wr) (fun i _ => n - (intOf i).toNat)
  case atStart => exact ⟨0, Nat.zero_le _, rfl, HO1.out, Below.refl _ _⟩
  case round =>
    obtain ⟨k, hk, rfl, ho, hb⟩ := hrel
    obtain ⟨wo, hwo⟩ : ∃ wo, wo = wr := ⟨wr, rfl⟩
    subst hwo
    have q0 := (hb.block w.heap.size (by omega)).trans ((HB1.out.block w.heap.size (by omega)).trans Q0.out)
    have q2 := (hb.block (w.heap.size + 1) (by omega)).trans ((HB1.out.block (w.heap.size + 1) (by omega)).trans Q2.out)
    have x0 := blk_cell q0 0
    have x1 := blk_cell q0 1
    simp only [cell2_0, cell2_1] at x0 x1
    have QQ2 := Lib.hid q2
    have HO := Lib.hid ho
    have HBo := Lib.hid hb
    clear ho hb q0 q2
    by_cases hlt : k < n
    · obtain ⟨s, hs⟩ : ∃ s : Nat, zs[k]?.getD 0 = (s : Int) := ⟨(zs[k]?.getD 0).toNat, by have := (hPn k hlt).2.1; simp only at this; omega⟩
      have hs64 : s < 64 := by have := (hPn k hlt).small hm6'; simp only [hs] at this; simpa using this
      obtain ⟨b1, o1, rfl, hb1, hc1⟩ := HI.out.at_ (k := k) (by have := HN.out; omega)
      rw [hs] at hc1
      have HC1 := Lib.hid hc1
      have HS := Lib.hid hs
      obtain ⟨U, hU⟩ : ∃ U, U = prsP (pairs zs k) := ⟨_, rfl⟩
      have hU8 : Hid (∀ x ∈ U, x.1 < 8) := Lib.hid (by rw [hU]; exact prsP_lt8 zs k (by omega))
      have HU := Lib.hid hU
      have HO2 : Hid (OwnN wo w.heap.size (some ⟨w1.heap.size, 0, none⟩) m m (dualS m U k s 0)) := Lib.hid (by rw [dualS_zero, HU.out]; exact HO.out)
      clear hc1 hs hU
      go_wp2
      go_loopw [6] (fun i wr => ∃ v : Nat, v ≤ m ∧ i = .int .i64 v ∧ OwnN wr w.heap.size (some ⟨w1.heap.size, 0, none⟩) m m (dualS m U k s v) ∧ Below w1.heap.size w2 wr) (fun i _ => m - (intOf i).toNat)
      case atStart => exact ⟨0, Nat.zero_le _, rfl, HO2.out, HBo.out⟩
      case round =>
        obtain ⟨v, hv, rfl, ho, hb⟩ := hrel
        have q0 := (hb.block w.heap.size (by omega)).trans ((HB1.out.block w.heap.size (by omega)).trans Q0.out)
        have y0 := blk_cell q0 0
        have y1 := blk_cell q0 1
        simp only [cell2_0, cell2_1] at y0 y1
        clear q0
        by_cases hvm : v < m
        · have y2 : wr.cell? ⟨b1, o1 + k, none⟩ = some (.int .i64 (s : Int)) := (hb.cell (p := ⟨b1, o1 + k, none⟩) (show b1 < w1.heap.size by omega)).trans ((HBw.out.cell (p := ⟨b1, o1 + k, none⟩) hb1).trans HC1.out)
          obtain ⟨d, hd⟩ : ∃ d, d = dualBits U v := ⟨_, rfl⟩
          have hd8 : d < 256 := by rw [hd]; exact dualBits_lt _ _ hU8.out
          have y3 : wr.cell? ⟨w1.heap.size, v, none⟩ = some (.int .i64 (d : Int)) := by
            rw [World.ownsRow.cellAt ho v (by simp; omega), List.getElem?_map, dualS_at _ _ _ _ _ hvm, hd]; rfl
          have hfz := World.ownsRow.frozenAt ho v
          have HS3 := Lib.hid (fun x => (World.ownsRow.stored ho v x).1)
          have HB3 := Lib.hid hb
          have HD := Lib.hid hd
          obtain ⟨e, he⟩ : ∃ e, e = (s >>> v) &&& 1 := ⟨_, rfl⟩
          have he1 : e ≤ 1 := by rw [he]; exact Nat.and_le_right
          have hk8 : k < 8 := by omega
          have HW1 : Hid (bits BinOp.and IntKind.i64 ((s : Int) / 2 ^ v) 1 = (e : Int)) := Lib.hid (by rw [bit_at s v hs64 (by omega), ← he])
          have HW2 : Hid (bits BinOp.or IntKind.i64 (d : Int) ((e : Int) * 2 ^ k) = ((d ||| (e * 2 ^ k) : Nat) : Int)) := Lib.hid (or1_at d e k hd8 he1 hk8)
          have HW3 : Hid (IntKind.i64.wrap ((e : Int) * 2 ^ k) = (e : Int) * 2 ^ k) := Lib.hid (by obtain ⟨h1, h2⟩ := e2_small e k he1 hk8; rw [IntKind.wrap_i64]; omega)
          have HE := Lib.hid he
          clear ho hb hd he
          go_wp2
          go_still_tail 18, (by kernel_rfl)
          simp only [HW1.out, HW3.out, HW2.out]
          change wpList _ _ _ _ _ wr.drew
          go_wp2
          go_roundw
          case rel => exact ⟨v + 1, by omega, by go_num, by rw [dualS_succ, ← HE.out, ← HD.out]; have h1 := HS3.out (.int .i64 ((d ||| (e * 2 ^ k) : Nat) : Int)); rw [← List.map_set] at h1; exact h1, (HB3.out.drew).setCell (p := ⟨w1.heap.size, v, none⟩) (Nat.le_refl _) _⟩
          case measure => simp [intOf]; omega
        · obtain rfl : v = m := by omega
          have HOE : Hid (OwnN wr w.heap.size (some ⟨w1.heap.size, 0, none⟩) v v (dualL v (prsP (pairs zs (k + 1))))) := Lib.hid (by
            rw [pairs_succ, prsP_snoc]
            simp only [HS.out, Int.toNat_natCast]
            rw [← HU.out, ← dualS_all v U k s hm6' hs64]; exact ho)
          have HBE := Lib.hid hb
          clear ho hb
          go_wp2
          go_roundw
          case rel => exact ⟨k + 1, by omega, by go_num, HOE.out, HBE.out⟩
          case measure => simp [intOf]; omega
    · obtain rfl : k = n := by omega
      have d0 := blk_cell QQ2.out 0
      have d1 := blk_cell QQ2.out 1
      have f0 := blk_frozen QQ2.out 0
      have f1 := blk_frozen QQ2.out 1
      simp only [cell2_0, cell2_1] at d0 d1
      go_wp2
      refine bodyPost_ret (v := .tuple #[.agg #[.int .i64 (k : Int), .slice (some ⟨w1.heap.size, 0, none⟩) m m], .bool true]) (by simp [results, Tryd.results18, go_sem, d0, d1]) rfl ?_
      refine ⟨some ⟨w1.heap.size, 0, none⟩, m, by rw [dualL_length], ?_, ?_⟩
      · unfold OwnI
        rw [dualL_length]
        exact ownsRow_setCell_ne (ownsRow_setCell_ne HO.out (p := ⟨w.heap.size + 1, 0, none⟩) (by simp [Value.ownBlock]; omega) _) (p := ⟨w.heap.size + 1, 1, none⟩) (by simp [Value.ownBlock]; omega) _
      · exact ((HBw.out.trans (HBo.out.mono (by omega))).setCell (p := ⟨w.heap.size + 1, 0, none⟩) (by simp) _).setCell (p := ⟨w.heap.size + 1, 1, none⟩) (by simp) _

end Go.Proofs.YtacglafoahmcnaaDoor
