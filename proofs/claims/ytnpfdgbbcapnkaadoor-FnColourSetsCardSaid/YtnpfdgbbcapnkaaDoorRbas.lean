/- It is proved what the FamilyIn of the model returns; conditions: the bounds in each statement. -/
import Derived.Test.YtnpfdgbbcapnkaaDoorRows
import Derived.WalkKit
import Derived.WalkSpells
import Derived.ProofKit
import Derived.OpenShut
import Derived.ShutString
import Derived.ChangeOld
import Derived.Below
import Derived.Deep.RegionHeld3
import Derived.Deep.QuietTactic
import Derived.BigQuiet
import Derived.Lib.Hide
import Derived.Lib.SmallJoins
import Derived.Outline
import Derived.Laws.MakeOwn
import Derived.Laws.OwnMore
import Derived.IntWalk
import Derived.Test.YtnpfdgbbcapnkaaDoorRbaa
import Derived.Test.YtnpfdgbbcapnkaaDoorRbab
import Derived.RowKit
import Derived.Laws.CopyRow
import Derived.Lib.SlBuf
import Derived.RangeFuncNested
import Derived.RangeFuncBound
import Derived.RangeFuncCalls
import Derived.RangeFuncLeaves
import Derived.RangeFuncBox
import Derived.RangeFuncWrites
import Derived.StillTailTactics
import Derived.Maps.OwnIn
import Derived.Maps.Ext
import Derived.DeepKeys4
import Derived.MapKept
import Derived.Lib.AppendZeros
import Derived.Maps.AppendAt
import Derived.Deep.AppendLies
import Derived.OwnWalk
import Derived.Lib.SlicesCompact
import Derived.Lib.OwnBridge
import Derived.OrdersIn
import Derived.TacticsIn
import Derived.Shelf.Sort.Plain
import Derived.Shelf.Slices.In.SortNone
import Derived.Shelf.Slices.CompactI
import Derived.Ground.Names2Prog
import Derived.Lib.SliceRun
import Derived.Shelf.Abstract
import Derived.Shelf.RegionOpen
import Derived.OwnWalkIn
import Derived.TacticsInMore
import Derived.LoopNIn
import Derived.LoopIn
import Derived.StillTail
import Derived.StillTactics
import Derived.Shelf.Spec.TrailingZeros
import Derived.Test.YtnpfdgbbcapnkaaDoorRbah
import Derived.Test.YtnpfdgbbcapnkaaDoorRbae
import Derived.Sort.MapsRangeIn
import Derived.Deep.RegionLaw
import Derived.Test.YtnpfdgbbcapnkaaDoorRbag
namespace Go.Proofs.YtnpfdgbbcapnkaaDoor
open Go.RowKit

theorem l1All_b (m : Int) (a : Option Addr) (n cap : Nat) (w : World) (h1 : 1 ≤ m) (h2 : m ≤ 6) :
    Calls Tryd.prog 57 #[.agg #[.int .i64 m, .slice a n cap]] w fun e w' => e = .returned (.int .i64 (fullI m)) ∧ Below w.heap.size w w' :=
  (l1All_any m a n cap w h1 h2).mono fun e w' ⟨he, hw⟩ => ⟨he, by rw [← hw]; exact below1 _ _⟩

set_option maxRecDepth 100000 in
set_option maxHeartbeats 800000 in
theorem specFamilyIn_any (m : Int) (a : Option Addr) (c : Nat) (zs : List Int) (w : World) (ha : Ints w w.heap.size a zs) (hx : zs.length ≤ 1048576) :
    Calls Tryd.prog 45 #[.agg #[.int .i64 m, .slice a zs.length c]] w fun e w' => e = .returned (.bool (famIn m zs)) ∧ Below w.heap.size w w' := by
  obtain ⟨n, hn⟩ : ∃ n, n = zs.length := ⟨_, rfl⟩
  have HN : Hid (n = zs.length) := Lib.hid hn
  rw [← hn]
  rw [← hn] at hx
  have HB := Lib.hid (below1 w (.cells #[.int .i64 m, .slice a n c] 25))
  cases h1 : inB m 1 6
  · have HF : Hid (famIn m zs = false) := Lib.hid (famIn_m h1)
    have H1 := Lib.hid h1
    clear hn h1
    go_enter Tryd.func45, Tryd.ntmps45
    go_wp2_with (go_at_call 62; refine (l6In_any _ _ _ _).mono ?_; rintro e w' ⟨rfl, rfl⟩; rw [H1.out])
    go_ret
    exact ⟨by rw [HF.out]; rfl, HB.out⟩
  · have H1 := Lib.hid h1
    obtain ⟨hm1, hm6⟩ := inB_out h1
    by_cases h3 : n ≤ 8
    · clear hn h1
      go_enter Tryd.func45, Tryd.ntmps45
      go_wp2_with (go_at_call 62; refine (l6In_any _ _ _ _).mono ?_; rintro e w' ⟨rfl, rfl⟩; rw [H1.out])
      go_loopw [3] (fun i wr => ∃ k : Nat, k ≤ n ∧ i = .int .i64 k ∧ (∀ j, j < k → inB (zs[j]?.getD 0) 0 (fullI m) = true) ∧ Below (w.heap.size + 1) (w.alloc (.cells #[.int .i64 m, .slice a n c] 25)) wr) (fun i _ => n - (intOf i).toNat)
      case atStart => exact ⟨0, Nat.zero_le _, rfl, fun j hj => by omega, Below.refl _ _⟩
      case round =>
        obtain ⟨k, hk, rfl, he, hb⟩ := hrel
        have x0 : wr.cell? ⟨w.heap.size, 0, none⟩ = some (.int .i64 m) := (hb.cell (p := ⟨w.heap.size, 0, none⟩) (by simp)).trans (blk_cell (alloc_new w _) 0)
        have x1 : wr.cell? ⟨w.heap.size, 1, none⟩ = some (.slice a n c) := (hb.cell (p := ⟨w.heap.size, 1, none⟩) (by simp)).trans (blk_cell (alloc_new w _) 1)
        have HBW := Lib.hid hb
        by_cases hlt : k < n
        · obtain ⟨b1, o1, rfl, hb1, hc1⟩ := ha.at_ (k := k) (by rw [← HN.out]; exact hlt)
          have x2 := (hb.cell (p := ⟨b1, o1 + k, none⟩) (by simp; omega)).trans ((HB.out.cell (p := ⟨b1, o1 + k, none⟩) hb1).trans hc1)
          have HE := Lib.hid he
          have hk0 : (0 : Int) ≤ (k : Int) := by omega
          have hk1 : (k : Int) < (n : Int) := by omega
          have hs2 : w.heap.size + 1 ≤ wr.heap.size := by have := hb.size; simp at this; omega
          have hs0 : w.heap.size < wr.heap.size := by omega
          have hs1 : b1 < wr.heap.size := by omega
          clear he hc1 hb
          cases hs : inB (zs[k]?.getD 0) 0 (fullI m)
          · have HS := Lib.hid hs
            have HF : Hid (famIn m zs = false) := Lib.hid (famIn_z (by rw [← HN.out]; exact hlt) hs)
            clear hs
            go_wp2_with fail
            go_region_held3 (fun w' => w'.cell? ⟨w.heap.size, 0, none⟩ = some (.int .i64 m) ∧ w'.cell? ⟨w.heap.size, 1, none⟩ = some (.slice (some ⟨b1, o1, none⟩) n c) ∧ w'.cell? ⟨b1, o1 + k, none⟩ = some (.int .i64 (zs[k]?.getD 0)) ∧ Below (w.heap.size + 1) (w.alloc (.cells #[.int .i64 m, .slice (some ⟨b1, o1, none⟩) n c] 25)) w')
              (first
                | exact ⟨x0, x1, x2, HBW.out.drew⟩
                | exact ⟨(hb1'.cell (p := ⟨w.heap.size, 0, none⟩) hs0).trans x0, (hb1'.cell (p := ⟨w.heap.size, 1, none⟩) hs0).trans x1, (hb1'.cell (p := ⟨b1, o1 + k, none⟩) hs1).trans x2, HBW.out.drew.trans (hb1'.mono hs2)⟩)
              (first
                | (go_at_call 57; refine (l1All_b _ _ _ _ _ hm1 hm6).mono ?_; rintro e w1 ⟨rfl, hb1'⟩)
                | (go_at_call 62; refine (l6In_any _ _ _ _).mono ?_; rintro e w' ⟨rfl, rfl⟩; rw [HS.out]))
            rename_i hHeld
            have HW1 := Lib.hid hHeld.2.2.2
            clear hHeld hb1'
            go_wp2
            go_ret
            exact ⟨by rw [HF.out]; rfl, HB.out.trans (HW1.out.mono (by omega))⟩
          · have HS := Lib.hid hs
            clear hs
            go_wp2_with fail
            go_region_held3 (fun w' => w'.cell? ⟨w.heap.size, 0, none⟩ = some (.int .i64 m) ∧ w'.cell? ⟨w.heap.size, 1, none⟩ = some (.slice (some ⟨b1, o1, none⟩) n c) ∧ w'.cell? ⟨b1, o1 + k, none⟩ = some (.int .i64 (zs[k]?.getD 0)) ∧ Below (w.heap.size + 1) (w.alloc (.cells #[.int .i64 m, .slice (some ⟨b1, o1, none⟩) n c] 25)) w')
              (first
                | exact ⟨x0, x1, x2, HBW.out.drew⟩
                | exact ⟨(hb1'.cell (p := ⟨w.heap.size, 0, none⟩) hs0).trans x0, (hb1'.cell (p := ⟨w.heap.size, 1, none⟩) hs0).trans x1, (hb1'.cell (p := ⟨b1, o1 + k, none⟩) hs1).trans x2, HBW.out.drew.trans (hb1'.mono hs2)⟩)
              (first
                | (go_at_call 57; refine (l1All_b _ _ _ _ _ hm1 hm6).mono ?_; rintro e w1 ⟨rfl, hb1'⟩)
                | (go_at_call 62; refine (l6In_any _ _ _ _).mono ?_; rintro e w' ⟨rfl, rfl⟩; rw [HS.out]))
            rename_i hHeld
            have HW1 := Lib.hid hHeld.2.2.2
            clear hHeld hb1'
            go_wp2
            go_roundw
            case rel => exact ⟨k + 1, by omega, by go_num, fun j hj => by
              rcases Nat.lt_succ_iff_lt_or_eq.1 hj with h | rfl
              · exact HE.out j h
              · exact HS.out, HW1.out⟩
            case measure => simp [intOf]; omega
        · obtain rfl : k = n := by omega
          have HF : Hid (famIn m zs = true) := Lib.hid (famIn_y (inB_true hm1 hm6) (by rw [← HN.out]; exact h3) (by rw [← HN.out]; exact he))
          have HBB : Hid (Below w.heap.size w wr) := Lib.hid (HB.out.trans (hb.mono (by omega)))
          clear he hb
          go_wp2
          go_ret
          exact ⟨by rw [HF.out]; rfl, HBB.out⟩
    · have HF : Hid (famIn m zs = false) := Lib.hid (famIn_l (by omega))
      clear hn h1
      go_enter Tryd.func45, Tryd.ntmps45
      go_wp2_with (go_at_call 62; refine (l6In_any _ _ _ _).mono ?_; rintro e w' ⟨rfl, rfl⟩; rw [H1.out])
      go_ret
      exact ⟨by rw [HF.out]; rfl, HB.out⟩

end Go.Proofs.YtnpfdgbbcapnkaaDoor

/- It is proved what CoverIn of the program and of the reference model returns; conditions: those of each statement. -/
namespace Go.Proofs.YtnpfdgbbcapnkaaDoor
open Go.RowKit

theorem fam_nat2 {m : Int} {zs : List Int} (h : famIn m zs = true) : ∃ k : Nat, m = (k : Int) ∧ 1 ≤ k ∧ k ≤ 6 ∧ Sets k zs ∧ zs.length ≤ 8 := by
  obtain ⟨h1, h2, h3, -⟩ := famIn_out h
  obtain ⟨k, rfl⟩ : ∃ k : Nat, m = (k : Int) := ⟨m.toNat, by omega⟩
  exact ⟨k, rfl, by omega, by omega, sets_of_fam h, h3⟩

end Go.Proofs.YtnpfdgbbcapnkaaDoor

/- It is proved how sums of degrees, sizes, unions and meetings of clubs count their members; conditions: those of each statement. -/
namespace Go.Proofs.YtnpfdgbbcapnkaaDoor
open Go.RowKit

theorem allMem_cons (z : Int) (zs : List Int) : allMem (z :: zs) = mem z.toNat ++ allMem zs := by simp [allMem]
end Go.Proofs.YtnpfdgbbcapnkaaDoor

/- It is proved that the orbits of a family's own names divide its members, have members of one degree, and sizes that divide the number of own names; conditions: those of each statement. -/
namespace Go.Proofs.YtnpfdgbbcapnkaaDoor
open Go.RowKit

/-! ### orbits as sets -/
/-! ### sizes -/
/-! ### degrees -/
theorem count_bit_fin : ∀ s : Fin 64, ∀ v : Fin 6, (mem s.val).count v.val = if s.val.testBit v.val then 1 else 0 := by decide +kernel
theorem count_bit {s v : Nat} (hs : s < 64) (hv : v < 6) : (mem s).count v = if s.testBit v then 1 else 0 := count_bit_fin ⟨s, hs⟩ ⟨v, hv⟩
theorem deg_countP {v : Nat} (hv : v < 6) : ∀ (zs : List Int), (∀ z ∈ zs, z.toNat < 64) → (allMem zs).count v = zs.countP fun z => z.toNat.testBit v
  | [], _ => by simp [allMem]
  | z :: zs, h => by
    rw [allMem_cons, List.count_append, deg_countP hv zs (fun x hx => h x (by simp [hx])), count_bit (h z (by simp)) hv, List.countP_cons, Nat.add_comm]

/-! ### all at once -/
end Go.Proofs.YtnpfdgbbcapnkaaDoor

/- It is proved what FamilyDegrees of the program returns; conditions: those of each statement. -/
namespace Go.Proofs.YtnpfdgbbcapnkaaDoor
open Go.RowKit Go.Shelf

attribute [local go_sem] Oper.semAt_some

def famDeg (m : Int) (zs : List Int) : List Int := if famIn m zs then degL m.toNat (allMem zs) else []
set_option maxRecDepth 100000 in
set_option maxHeartbeats 2000000 in
theorem implDegrees_no (m : Int) (a : Option Addr) (c : Nat) (zs : List Int) (w : World) (ha : Ints w w.heap.size a zs) (hx : zs.length ≤ 1048576) (hf : famIn m zs = false) :
    Calls Tryd.prog 87 #[.agg #[.int .i64 m, .slice a zs.length c]] w (RetSB w [] false) := by
  have HA := Lib.hid ((ha.below (below1 w (.cells #[.int .i64 m, .slice a zs.length c] 25))).mono (B' := (w.alloc (.cells #[.int .i64 m, .slice a zs.length c] 25)).heap.size) (by simp))
  have HF := Lib.hid hf
  clear hf ha
  go_enter Tryd.func87, Tryd.ntmps87
  go_wp2_with (go_at_call 15; refine (implFamilyIn_any _ _ _ zs _ HA.out hx).mono ?_; rintro e w1 ⟨rfl, hb⟩; rw [HF.out]; have HB := Lib.hid hb; clear hb)
  go_ret2
  exact ⟨none, 0, rfl, World.ownsRow_nil _ _ 3 1, (below1 _ _).trans (HB.out.mono (by simp))⟩

set_option maxRecDepth 100000 in
set_option maxHeartbeats 4000000 in
theorem implDegrees_yes (m : Nat) (a : Option Addr) (c : Nat) (zs : List Int) (w : World) (ha : Ints w w.heap.size a zs) (hT : Tab w) (hx : zs.length ≤ 1048576) (hf : famIn (m : Int) zs = true) :
    Calls Tryd.prog 87 #[.agg #[.int .i64 (m : Int), .slice a zs.length c]] w (RetSB w (degL m (allMem zs)) true) := by
  obtain ⟨i0, hi0, hz0, hz1, hz2⟩ := info_parts Tryd.info3
  have HA := Lib.hid ((ha.below (below1 w (.cells #[.int .i64 (m : Int), .slice a zs.length c] 25))).mono (B' := (w.alloc (.cells #[.int .i64 (m : Int), .slice a zs.length c] 25)).heap.size) (by simp))
  have HI := Lib.hid ha
  have HF := Lib.hid hf
  have HT := Lib.hid hT
  have hPc := isClub_all hf
  obtain ⟨hm1, hm6, hl8, -⟩ := famIn_out hf
  have hm6' : m ≤ 6 := by omega
  clear hf ha hT
  refine (callsIn_wide (n := 6)).1 ?_
  refine callsIn_of_wp_marks Tryd.func87 rfl trivial ?_ rfl
  simp only [Tryd.ntmps87, List.size_toArray, List.length_cons, List.length_nil, Nat.reduceAdd, Nat.reduceSub, Array.replicate_succ, Array.replicate_zero, List.push_toArray, List.append_toArray, List.nil_append, List.cons_append]
  gi_wp2_with fail
  refine ⟨trivial, (callsIn_wide.2 (implFamilyIn_any _ _ _ zs _ HA.out hx)).mono ?_⟩
  rintro e w1 ⟨rfl, hb⟩
  rw [HF.out]
  have q0 : w1.heap[w.heap.size]? = some (.cells #[.int .i64 (m : Int), .slice a zs.length c] 25 (0, 0)) := (hb.block _ (by simp)).trans (alloc_new w _)
  have x0 := blk_cell q0 0
  have x1 := blk_cell q0 1
  have xs : w.heap.size + 1 ≤ w1.heap.size := by have := hb.size; simpa using this
  have HB := Lib.hid ((below1 w _).trans (hb.mono (by simp)))
  have Q0 := Lib.hid q0
  simp only [cell2_0, cell2_1] at x0 x1
  clear hb q0
  gi_wp2_with (gi_at_make; refine mark_make ?_)
  refine unmark_make ?_
  refine wpListIn_make_fullD _ rfl _ _ 23 rfl w1.heap.size 3 i0 (.int .i64 0) 1 Tryd.underlying23 hi0 hz0 hz1 .i64 .i64 m rfl rfl (by rw [hz2]; omega) (by simp only [maxLen]; omega) (Nat.le_refl _) ?_
  intro w2 hown hg
  have y0 := ((hg.block w.heap.size (by omega) (by simp)).trans Q0.out : w2.heap[w.heap.size]? = _)
  have z0 := blk_cell (w := w2.alloc (.cells #[.slice (some ⟨w1.heap.size, 0, none⟩) m m] 23)) ((alloc_old _ _ _ (lt_of_some y0)).trans y0) 0
  have z1 := blk_cell (w := w2.alloc (.cells #[.slice (some ⟨w1.heap.size, 0, none⟩) m m] 23)) ((alloc_old _ _ _ (lt_of_some y0)).trans y0) 1
  have hGl : w1.heap.size < w2.heap.size := by have := (World.ownsRow.lt hown _ rfl).2; simpa using this
  have HO : Hid (w2.ownsRow w1.heap.size 3 1 (.slice (some ⟨w1.heap.size, 0, none⟩) m m) m ((degL m []).map (Value.int .i64))) := Lib.hid (by rw [degL_nil]; have := hown; rw [show (madeCells (Value.int .i64 0).cells (m * 1)).toList = (List.replicate m (0 : Int)).map (Value.int .i64) from by rw [show (Value.int .i64 0).cells = #[Value.int .i64 0] from rfl, toList_madeCells_one]; simp] at this; exact this)
  have HG := Lib.hid (HB.out.trans (((Below.refl _ _).grown hg (Nat.le_refl _) (by simp) : Below w1.heap.size w1 w2).mono (by omega)))
  simp only [cell2_0, cell2_1] at z0 z1
  clear hown hg y0 x0 x1
  gi_wp2_with (refine ⟨trivial, ?_⟩; gi_at_call 66; refine (callsIn_wide.2 (clubs_any _ _ _ _ _)).mono ?_; rintro e w' ⟨rfl, rfl⟩)
  have hle : w.heap.size ≤ w2.heap.size := by omega
  have h16 : 1 ≤ 6 := by omega
  have bD := Boxed.new w2 23 (.slice (some ⟨w1.heap.size, 0, none⟩) m m)
  have HBB : Hid (Below w.heap.size w ((w2.alloc (.cells #[.slice (some ⟨w1.heap.size, 0, none⟩) m m] 23)).alloc (.cells #[.int .i64 (m : Int), .slice a zs.length c] 25))) := Lib.hid (HG.out.trans ((below2 w2 _ _).mono (by omega)))
  have hst := clubsP_stops (IsClub m) (6 - 1) (by omega) (w2.heap.size + 1) w.heap.size a c zs hx hPc ((w2.alloc (.cells #[.slice (some ⟨w1.heap.size, 0, none⟩) m m] 23)).alloc (.cells #[.int .i64 (m : Int), .slice a zs.length c] 25)) (by simp) (by simp; omega)
    (by simp) (HI.out.below HBB.out)
  have h0 : RowBox w2.heap.size w1.heap.size w.heap.size m (degL m (allMem (sets ([] : List { p // IsClub m p })))) ((w2.alloc (.cells #[.slice (some ⟨w1.heap.size, 0, none⟩) m m] 23)).alloc (.cells #[.int .i64 (m : Int), .slice a zs.length c] 25)) :=
    ⟨_, bD.alloc _, by have := ownsRow_base HO.out (B := w.heap.size) (by omega); exact (this.alloc _).alloc _, rfl⟩
  obtain ⟨Wo, hWo⟩ : ∃ Wo, (w2.alloc (.cells #[.slice (some ⟨w1.heap.size, 0, none⟩) m m] 23)).alloc (.cells #[.int .i64 (m : Int), .slice a zs.length c] 25) = Wo := ⟨_, rfl⟩
  have hso : Wo.heap.size = w2.heap.size + 1 + 1 := by rw [← hWo]; simp
  rw [hWo] at hst HBB h0 ⊢
  have HSO := Lib.hid hso
  clear hWo bD hso
  refine wpIn_rangeFunc_ownH rfl h16 (gf := 105) (lb := #[.pointer (some ⟨w2.heap.size + 1, 0, none⟩)]) rfl trivial (enters_of Tryd.func105 (by kernel_rfl) rfl)
    hst belowK_t (belowK_b (by have := HSO.out; omega)) (Below.refl _ _) (fun _ => rfl)
    (fun pre W => RowBox w2.heap.size w1.heap.size w.heap.size m (degL m (allMem (sets pre))) W ∧ Below w.heap.size w W)
    (fun _ _ _ => False)
    (OwnFrom.and (Own.from (RowBox.own _ _ _ _ (fun pre => degL m (allMem (sets pre)))) _) (ownFrom_below (Nat.le_refl _) (by have := HSO.out; omega)))
    (fun _ _ _ _ _ hs _ _ => hs)
    ⟨h0, HBB.out⟩
    (fun x a' _ => a' = { tmps := #[.agg #[.int .i64 (m : Int), .slice a zs.length c], .pointer (some ⟨w.heap.size, 0, none⟩), .slice none 0 0, .bool false, .pointer (some ⟨w2.heap.size, 0, none⟩), undef, .int .i64 x.1.2, undef, .agg #[.int .i64 (m : Int), .slice a zs.length c], .bool true, .bool false, .pointer (some ⟨w.heap.size, 0, none⟩), .int .i64 (m : Int), .slice (some ⟨w1.heap.size, 0, none⟩) m m, .agg #[.int .i64 (m : Int), .slice a zs.length c], .func (.func 105) #[] #[.pointer (some ⟨w2.heap.size + 1, 0, none⟩)], .int .i64 (x.1.1 : Int), .int .i64 x.1.2, undef, undef, undef, undef, undef, undef, undef, undef, undef, undef], defers := [] })
    (fun _ _ _ _ _ _ hs _ _ => hs)
    ?assign ?body ?done ?stop
  case assign =>
    rintro l pre x W K hi hK
    gi_wp2
    exact hK _ _ (KeepsFrom.refl _ _) (Below.refl _ _) hi rfl
  case body =>
    rintro l pre x a' W hl ⟨r, hr⟩ ⟨hv, hB⟩ rfl hlt
    obtain ⟨s, hs⟩ : ∃ s : Nat, x.1.2 = (s : Int) := ⟨x.1.2.toNat, by have := x.2.2.1; omega⟩
    have hs2 : s < 2 ^ m := by have := x.2.2.2; rw [hs] at this; simpa using this
    rw [hs]
    have HV := Lib.hid hv
    have HBW := Lib.hid hB
    have hWs : w.heap.size ≤ W.heap.size := hB.size
    have h1' : 1 ≤ 6 - 1 - 1 := by omega
    clear hv hB
    gi_wp2_with (refine ⟨trivial, ?_⟩; gi_at_call 88; refine (callsIn_wide.2 (members_any _ _)).mono ?_; rintro e w' ⟨rfl, rfl⟩)
    have hDW : w2.heap.size < W.heap.size := HV.out.box.lt
    have hst2 := (members_stops (6 - 1 - 1 - 1) (by omega) W.heap.size w.heap.size m s hm6' hs2 (W.alloc (.cells #[.int .i64 (s : Int)] 45)) (by simp) (by simp; omega) HT.out.lt (by simp)
      (HT.out.below (HBW.out.alloc hWs _) HT.out.lt)).inRound l
    have hr' : (W.alloc (.cells #[.int .i64 (s : Int)] 45)).heap[l]? = some (.loop r) := (alloc_old W _ l (lt_of_some hr)).trans hr
    have h00 : RowBox w2.heap.size w1.heap.size w.heap.size m (degL m (allMem (sets pre) ++ vals ([] : List (Mem m)))) (W.alloc (.cells #[.int .i64 (s : Int)] 45)) := by
      rw [vals_nil, List.append_nil]; exact HV.out.alloc _
    have hbl : (allMem (sets pre)).length ≤ 48 := by have := sets_len hm6' pre; omega
    refine wpIn_rangeFunc_ownN (l₀ := l) (r₀ := r) rfl hr' h1' (gf := 119) (lb := #[.pointer (some ⟨W.heap.size, 0, none⟩)]) rfl trivial (enters_of Tryd.func119 (by kernel_rfl) rfl)
      hst2 belowK_t (belowK_b (by simp; omega)) (Below.refl _ _) (fun _ => rfl)
      (fun us W' => RowBox w2.heap.size w1.heap.size w.heap.size m (degL m (allMem (sets pre) ++ vals us)) W' ∧ (Below w.heap.size W W' ∧ KeepsFrom Wo.heap.size W W'))
      (fun _ _ _ => False)
      (OwnFrom.and (Own.from (RowBox.own _ _ _ _ (fun us => degL m (allMem (sets pre) ++ vals us))) _) (OwnFrom.and (ownFrom_below hWs (by simp; omega)) (ownFrom_keepsFrom (by simp))))
      (fun _ _ _ _ _ hs _ _ => hs)
      ⟨h00, (Below.refl _ W).alloc hWs _, (KeepsOthers.alloc _ _).from _⟩
      (fun y a'' _ => a'' = { tmps := #[.agg #[.int .i64 (m : Int), .slice a zs.length c], .pointer (some ⟨w.heap.size, 0, none⟩), .slice none 0 0, .bool false, .pointer (some ⟨w2.heap.size, 0, none⟩), undef, .int .i64 (s : Int), .int .i64 (y.1 : Int), .agg #[.int .i64 (m : Int), .slice a zs.length c], .bool true, .bool false, .pointer (some ⟨w.heap.size, 0, none⟩), .int .i64 (m : Int), .slice (some ⟨w1.heap.size, 0, none⟩) m m, .agg #[.int .i64 (m : Int), .slice a zs.length c], .func (.func 105) #[] #[.pointer (some ⟨w2.heap.size + 1, 0, none⟩)], .int .i64 (x.1.1 : Int), .int .i64 (s : Int), .int .i64 (s : Int), .func (.func 119) #[] #[.pointer (some ⟨W.heap.size, 0, none⟩)], .int .i64 (y.1 : Int), undef, undef, undef, undef, undef, undef, undef], defers := [] })
      (fun _ _ _ _ _ _ hs _ _ => hs)
      ?assign2 ?body2 ?done2 ?stop2
    case assign2 =>
      rintro l2 us y W' K hi hK
      gi_wp2
      exact hK _ _ (KeepsFrom.refl _ _) (Below.refl _ _) hi rfl
    case body2 =>
      rintro l2 us y a'' W' _ _ ⟨hv, hBW, hKF⟩ rfl hul
      obtain ⟨u, hu⟩ := y
      obtain ⟨d, hd⟩ : ∃ d, d = (allMem (sets pre) ++ vals us).count u := ⟨_, rfl⟩
      have hd60 : d ≤ 60 := by
        have h1 := List.count_le_length (a := u) (l := allMem (sets pre) ++ vals us)
        simp only [List.length_append, vals_length] at h1
        omega
      have hcD := hv.box.cell
      obtain ⟨hcs, hfz⟩ := hv.cell u hu
      rw [degL_at _ _ _ hu, ← hd] at hcs
      have HS := Lib.hid (hv.set (by omega) u ((d : Int) + 1))
      have HV2 := Lib.hid hv
      have HB2 := Lib.hid hBW
      have HK2 := Lib.hid hKF
      have HD := Lib.hid hd
      clear hv hBW hKF hd
      gi_wp2
      refine ⟨(KeepsOthers.setCell _ _ _).from _, (Below.refl _ W').setCell (p := ⟨w1.heap.size, u, none⟩) (by show w.heap.size ≤ w1.heap.size; omega) _, ?_, HB2.out.setCell (p := ⟨w1.heap.size, u, none⟩) (by show w.heap.size ≤ w1.heap.size; omega) _, HK2.out.trans ((KeepsOthers.setCell _ _ _).from _)⟩
      rw [vals_snoc, ← List.append_assoc, degL_snoc, ← HD.out]
      exact HS.out
    case done2 =>
      rintro us W' hus ⟨hv, hBW, hKF⟩
      gi_wp2
      refine ⟨hKF, hBW, ?_, HBW.out.trans hBW⟩
      rw [sets_snoc, allMem_snoc, hs, Int.toNat_natCast, ← hus]
      exact hv
    case stop2 =>
      rintro c us W' _ h
      exact h.elim
  case done =>
    rintro D ys W hD hys ⟨hv, hB⟩ hK
    rw [sets_all hys] at hv
    have hc := hv.box.cell
    have HR := Lib.hid hv.row
    have HBW := Lib.hid hB
    clear hv hB
    gi_wp2
    refine ⟨by simp, .inl ⟨_, _, rfl, run_takeDeferred hK, ?_⟩⟩
    refine ⟨_, results_tmp2 rfl _ _ _, some ⟨w1.heap.size, 0, none⟩, m, by rw [degL_length]; rfl, ?_, HBW.out.trans (belowK_b (w := w) (Nat.le_refl _) W D _ _ (by have := HSO.out; omega) hK rfl rfl)⟩
    unfold OwnI
    rw [degL_length]
    exact ownsRow_base (ownsRow_putObj HR.out _ hK rfl) (Nat.le_refl _)
  case stop =>
    rintro D c pre W _ _ h _
    exact h.elim

end Go.Proofs.YtnpfdgbbcapnkaaDoor

/- It is proved what FamilyDegrees of the model returns; conditions: those of each statement. -/
namespace Go.Proofs.YtnpfdgbbcapnkaaDoor
open Go.RowKit

/-- The row while a club is counted: the first j members are through. -/
def degS (m : Nat) (us : List Nat) (s j : Nat) : List Int := (List.range m).map fun v => ((us.count v + (if v < j then (s >>> v) &&& 1 else 0) : Nat) : Int)

theorem degS_zero (m : Nat) (us : List Nat) (s : Nat) : degS m us s 0 = degL m us := by simp [degS, degL]
theorem degS_length (m : Nat) (us : List Nat) (s j : Nat) : (degS m us s j).length = m := by simp [degS]
theorem degS_at (m : Nat) (us : List Nat) (s j : Nat) (h : j < m) : (degS m us s j)[j]? = some ((us.count j : Nat) : Int) := by simp [degS, h]
theorem degS_all (m : Nat) (us : List Nat) (s : Nat) (hm : m ≤ 6) (hs : s < 64) : degS m us s m = degL m (us ++ mem s) := by
  apply List.ext_getElem
  · simp [degS, degL]
  · intro v h1 h2
    have hv : v < m := by simpa [degS] using h1
    simp only [degS, degL, List.getElem_map, List.getElem_range, List.count_append, if_pos hv]
    rw [mem_count s hs v (by omega)]

theorem degS_succ (m : Nat) (us : List Nat) (s j : Nat) : degS m us s (j + 1) = (degS m us s j).set j (((us.count j + ((s >>> j) &&& 1) : Nat)) : Int) := by
  apply List.ext_getElem
  · simp [degS]
  · intro v h1 h2
    have hv : v < m := by simpa [degS] using h1
    simp only [degS, List.getElem_map, List.getElem_range, List.getElem_set]
    by_cases h : j = v
    · subst h; simp
    · rw [if_neg h]
      have : (v < j + 1) ↔ (v < j) := by omega
      simp [this]

theorem allMem_take (zs : List Int) (k : Nat) (h : k < zs.length) : allMem (zs.take (k + 1)) = allMem (zs.take k) ++ mem (zs[k]?.getD 0).toNat := by
  rw [List.take_succ_eq_append_getElem h, allMem_snoc]; simp [h]

set_option maxRecDepth 100000 in
theorem bit_fin : ∀ s : Fin 64, ∀ v : Fin 6, bits BinOp.and IntKind.i64 ((s.val : Int) / 2 ^ v.val) 1 = (((s.val >>> v.val) &&& 1 : Nat) : Int) := by decide +kernel

theorem bit_at (s v : Nat) (hs : s < 64) (hv : v < 6) : bits BinOp.and IntKind.i64 ((s : Int) / 2 ^ v) 1 = (((s >>> v) &&& 1 : Nat) : Int) := bit_fin ⟨s, hs⟩ ⟨v, hv⟩
theorem implDegrees_any (m : Int) (a : Option Addr) (c : Nat) (zs : List Int) (w : World) (ha : Ints w w.heap.size a zs) (hT : Tab w) (hx : zs.length ≤ 1048576) :
    Calls Tryd.prog 87 #[.agg #[.int .i64 m, .slice a zs.length c]] w (RetSB w (famDeg m zs) (famIn m zs)) := by
  cases hf : famIn m zs
  · rw [show famDeg m zs = [] from by simp [famDeg, hf]]
    exact implDegrees_no m a c zs w ha hx hf
  · obtain ⟨hm1, hm6, -, -⟩ := famIn_out hf
    obtain ⟨k, rfl⟩ : ∃ k : Nat, m = (k : Int) := ⟨m.toNat, by omega⟩
    rw [show famDeg (k : Int) zs = degL k (allMem zs) from by simp [famDeg, hf]]
    exact implDegrees_yes k a c zs w ha hT hx hf

theorem famDeg_len (m : Int) (zs : List Int) : (famDeg m zs).length ≤ 1048576 := by
  unfold famDeg
  split
  · rename_i h
    have := (famIn_out h).2.1
    rw [degL_length]; omega
  · simp

end Go.Proofs.YtnpfdgbbcapnkaaDoor

/- It is proved what the method mapped returns, by which closure it may be called; conditions: those of the statement. -/
namespace Go.Proofs.YtnpfdgbbcapnkaaDoor
open Go.RowKit Go.Shelf

attribute [local go_sem] Oper.semAt_some

/-- The clubs with their places, behind what is known of them. -/
def fstOf {P : Nat × Int → Prop} (ys : List { p // P p }) : List (Nat × Int) := ys.map (·.1)

theorem fstOf_snoc {P : Nat × Int → Prop} (ys : List { p // P p }) (y : { p // P p }) : fstOf (ys ++ [y]) = fstOf ys ++ [y.1] := by simp [fstOf]
theorem fstOf_length {P : Nat × Int → Prop} (ys : List { p // P p }) : (fstOf ys).length = ys.length := by simp [fstOf]
end Go.Proofs.YtnpfdgbbcapnkaaDoor
