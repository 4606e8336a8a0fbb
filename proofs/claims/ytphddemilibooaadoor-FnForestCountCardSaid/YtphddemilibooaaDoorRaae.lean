/- It is proved what the closures of FamilyLeast, FamilyGreatest and without return; conditions: those of each statement. -/
import Derived.Test.YtphddemilibooaaDoorRows
import Derived.WalkKit
import Derived.WalkSpells
import Derived.ProofKit
import Derived.OpenShut
import Derived.ShutString
import Derived.ChangeOld
import Derived.Below
import Derived.Deep.RegionHeld3
import Derived.Deep.QuietTactic
import Derived.BigQuiet
import Derived.Lib.Hide
import Derived.Lib.SmallJoins
import Derived.Outline
import Derived.Laws.MakeOwn
import Derived.Laws.OwnMore
import Derived.IntWalk
import Derived.Lib.AppendZeros
import Derived.Maps.AppendAt
import Derived.Deep.AppendLies
import Derived.OwnWalk
import Derived.Lib.SlicesCompact
import Derived.Lib.OwnBridge
import Derived.Shelf.Sort.Plain
import Derived.Shelf.Slices.In.SortNone
import Derived.Shelf.Slices.CompactI
import Derived.Ground.Names2Prog
import Derived.RangeFuncNested
import Derived.RangeFuncBound
import Derived.RangeFuncCalls
import Derived.RangeFuncLeaves
import Derived.RangeFuncBox
import Derived.Shelf.Abstract
import Derived.Shelf.RegionOpen
import Derived.OwnWalkIn
import Derived.TacticsInMore
import Derived.LoopNIn
import Derived.LoopIn
import Derived.Test.YtphddemilibooaaDoorRaaa
import Derived.Test.YtphddemilibooaaDoorRaab
import Derived.Test.YtphddemilibooaaDoorRaad
import Derived.Laws.CopyRow
import Derived.Lib.SlBuf
import Derived.StillTailTactics
import Derived.Shelf.Spec.TrailingZeros
namespace Go.Proofs.YtphddemilibooaaDoor
open Go.RowKit Go.Shelf

attribute [local go_sem] Oper.semAt_some

def leG (o z : Int) : Bool := bits .andNot .i64 o z == 0
def geG (o z : Int) : Bool := leG z o
theorem partOf_any (c d : Int) (w : World) : Calls Tryd.prog 89 #[.int .i64 c, .int .i64 d] w fun e w' => e = .returned (.bool (leG c d)) ∧ w = w' := by
  go_enter Tryd.func89, Tryd.ntmps89
  go_wp2
  go_ret
  exact ⟨rfl, rfl⟩

theorem least1_any (c d : Int) (w : World) : Calls Tryd.prog 110 #[.int .i64 c, .int .i64 d] w fun e w' => e = .returned (.bool (leG c d)) ∧ w = w' := by
  go_enter Tryd.func110, Tryd.ntmps110
  go_wp2_with (go_at_call 89; refine (partOf_any _ _ _).mono ?_; rintro e w' ⟨rfl, rfl⟩)
  go_ret
  exact ⟨rfl, rfl⟩

theorem greatest1_any (c d : Int) (w : World) : Calls Tryd.prog 88 #[.int .i64 c, .int .i64 d] w fun e w' => e = .returned (.bool (geG c d)) ∧ w = w' := by
  go_enter Tryd.func88, Tryd.ntmps88
  go_wp2_with (go_at_call 89; refine (partOf_any _ _ _).mono ?_; rintro e w' ⟨rfl, rfl⟩)
  go_ret
  exact ⟨rfl, rfl⟩

/-- A set that another one of the clubs beats. -/
def beatBy (g : Int → Int → Bool) (z o : Int) : Bool := (o != z) && g o z

def beaten (g : Int → Int → Bool) (zs : List Int) (z : Int) : Bool := zs.any (beatBy g z)
set_option maxRecDepth 100000 in
set_option maxHeartbeats 4000000 in
theorem wo49 (m : Int) (a : Option Addr) (c : Nat) (zs : List Int) (P Q : Nat) (z : Int) (w : World) (ha : Ints w w.heap.size a zs) (hx : zs.length ≤ 1048576)
    (p0 : w.cell? ⟨P, 0, none⟩ = some (.int .i64 m)) (p1 : w.cell? ⟨P, 1, none⟩ = some (.slice a zs.length c)) (q0 : w.cell? ⟨Q, 0, none⟩ = some (.func (.func 110) #[] #[])) :
    Calls Tryd.prog 96 #[.int .i64 z, .pointer (some ⟨P, 0, none⟩), .pointer (some ⟨Q, 0, none⟩)] w fun e w' => e = .returned (.bool (beaten leG zs z)) ∧ Below w.heap.size w w' := by
  have HI := Lib.hid ha
  have hP : P < w.heap.size := lt_of_cell p0
  have hQ : Q < w.heap.size := lt_of_cell q0
  have Q0 := Lib.hid q0
  clear ha q0
  refine (callsIn_wide (n := 6)).1 ?_
  refine callsIn_of_wp_marks Tryd.func96 rfl trivial ?_ rfl
  simp only [Tryd.ntmps96, List.size_toArray, List.length_cons, List.length_nil, Nat.reduceAdd, Nat.reduceSub, Array.replicate_succ, Array.replicate_zero, List.push_toArray, List.append_toArray, List.nil_append, List.cons_append]
  have b1 : Below w.heap.size w ((w.alloc (.cells #[.int .i64 z] 3)).alloc (.cells #[.bool false] 4)) := below2 w _ _
  have y0 := (b1.cell (p := ⟨P, 0, none⟩) hP).trans p0
  have y1 := (b1.cell (p := ⟨P, 1, none⟩) hP).trans p1
  have B1 := Lib.hid b1
  clear b1 p0 p1
  gi_wp2_with (refine ⟨trivial, ?_⟩; gi_at_call 37; refine (callsIn_wide.2 (clubs_any _ _ _ _ _)).mono ?_; rintro e w' ⟨rfl, rfl⟩)
  have HBB : Hid (Below w.heap.size w (((w.alloc (.cells #[.int .i64 z] 3)).alloc (.cells #[.bool false] 4)).alloc (.cells #[.int .i64 m, .slice a zs.length c] 25))) := Lib.hid (below3 w _ _ _)
  have hst := clubs_stops (6 - 1) (by omega) (w.heap.size + 1 + 1) w.heap.size a c zs hx (((w.alloc (.cells #[.int .i64 z] 3)).alloc (.cells #[.bool false] 4)).alloc (.cells #[.int .i64 m, .slice a zs.length c] 25)) (by simp) (by simp; omega)
    ((blk_cell (alloc3_2 w _ _ _) 1).trans (cell2_1 _ _)) (HI.out.below HBB.out)
  have bS : Boxed (((w.alloc (.cells #[.int .i64 z] 3)).alloc (.cells #[.bool false] 4)).alloc (.cells #[.int .i64 m, .slice a zs.length c] 25)) w.heap.size 3 (.int .i64 z) := alloc3_0 w _ _ _
  have bR : Boxed (((w.alloc (.cells #[.int .i64 z] 3)).alloc (.cells #[.bool false] 4)).alloc (.cells #[.int .i64 m, .slice a zs.length c] 25)) (w.heap.size + 1) 4 (.bool false) := alloc3_1 w _ _ _
  have h16 : 1 ≤ 6 := by omega
  refine wpIn_rangeFunc_ownG rfl h16 (gf := 63) (lb := #[.pointer (some ⟨w.heap.size + 1 + 1, 0, none⟩)]) rfl trivial (enters_of Tryd.func63 (by kernel_rfl) rfl)
    hst belowK_t (belowK_b (by simp; omega)) (Below.refl _ _) (fun _ => rfl)
    (fun pre W => ((∀ p ∈ pre, beatBy leG z p.2 = false) ∧ W.cell? ⟨w.heap.size, 0, none⟩ = some (.int .i64 z) ∧ W.cell? ⟨w.heap.size + 1, 0, none⟩ = some (.bool false) ∧ W.frozen? ⟨w.heap.size + 1, 0, none⟩ = false) ∧ Below w.heap.size w W)
    (fun c pre W => (c = .ret ∧ (∃ p ∈ pre, beatBy leG z p.2 = true) ∧ W.cell? ⟨w.heap.size + 1, 0, none⟩ = some (.bool true)) ∧ Below w.heap.size w W)
    (OwnFrom.and (Own.from (fun s A B row hs hg hr => ⟨hs.1, cell_kept hs.2.1 hg hr, cell_kept hs.2.2.1 hg hr, (frozen_kept hs.2.2.1 hg hr).trans hs.2.2.2⟩) _) (ownFrom_below (Nat.le_refl _) (by simp; omega)))
    (fun c => OwnFrom.and (Own.from (fun s A B row hs hg hr => ⟨hs.1, hs.2.1, cell_kept hs.2.2 hg hr⟩) _) (ownFrom_below (Nat.le_refl _) (by simp; omega)))
    ⟨⟨by simp, bS.cell, bR.cell, bR.frozen⟩, HBB.out⟩
    (fun x => { tmps := #[.int .i64 z, .pointer (some ⟨P, 0, none⟩), .pointer (some ⟨Q, 0, none⟩), .pointer (some ⟨w.heap.size, 0, none⟩), .pointer (some ⟨w.heap.size + 1, 0, none⟩), undef, .int .i64 x.2, .agg #[.int .i64 m, .slice a zs.length c], .func (.func 63) #[] #[.pointer (some ⟨w.heap.size + 1 + 1, 0, none⟩)], .int .i64 (x.1 : Int), .int .i64 x.2, undef, undef, undef, undef, undef, undef, undef, undef, undef], defers := [] }) ?assign ?body ?done ?stop
  case assign =>
    intro l x W K hK
    gi_wp2
    exact hK
  case body =>
    rintro l pre x W ⟨⟨hp, hcz, hcr, hfr⟩, hB⟩ _
    have hq := (hB.cell (p := ⟨Q, 0, none⟩) hQ).trans Q0.out
    have HB := Lib.hid hB
    have HP := Lib.hid hp
    clear hB hp
    by_cases hne : x.2 = z
    · have hb : (x.2 != z) = false := by rw [hne]; simp
      have HN : Hid (beatBy leG z x.2 = false) := Lib.hid (by unfold beatBy; rw [hb]; rfl)
      clear hne
      gi_wp2
      refine ⟨fun _ h => (by cases h), ?_⟩
      gi_wp2
      exact ⟨(KeepsOthers.refl _).from _, Below.refl _ _, ⟨fun p hp => (List.mem_append.1 hp).elim (HP.out p) (fun e => (List.mem_singleton.1 e) ▸ HN.out), hcz, hcr, hfr⟩, HB.out⟩
    · have hb : (x.2 != z) = true := by rw [bne_iff_ne]; exact hne
      clear hne
      cases hg : leG x.2 z
      · have HN : Hid (beatBy leG z x.2 = false) := Lib.hid (by unfold beatBy; rw [hb, hg]; rfl)
        have HG := Lib.hid hg
        clear hg
        gi_wp2_with (refine ⟨trivial, ?_⟩; gi_at_call 110; refine (CallsIn.inRound l (callsIn_wide.2 (least1_any _ _ _))).mono ?_; rintro e w2 ⟨rfl, rfl⟩; rw [HG.out])
        exact ⟨(KeepsOthers.refl _).from _, Below.refl _ _, ⟨fun p hp => (List.mem_append.1 hp).elim (HP.out p) (fun e => (List.mem_singleton.1 e) ▸ HN.out), hcz, hcr, hfr⟩, HB.out⟩
      · have HN : Hid (beatBy leG z x.2 = true) := Lib.hid (by unfold beatBy; rw [hb, hg]; rfl)
        have HG := Lib.hid hg
        clear hg
        gi_wp2_with (refine ⟨trivial, ?_⟩; gi_at_call 110; refine (CallsIn.inRound l (callsIn_wide.2 (least1_any _ _ _))).mono ?_; rintro e w2 ⟨rfl, rfl⟩; rw [HG.out])
        exact ⟨(KeepsOthers.setCell _ _ _).from _, ⟨rfl, ⟨x, by simp, HN.out⟩, World.cell?_setCell_same' _ _ _ (by rw [hcr]; rfl)⟩, HB.out.setCell (p := ⟨w.heap.size + 1, 0, none⟩) (by simp) _⟩
  case done =>
    rintro D ys W hD rfl ⟨⟨hne, _, hcr, hfr⟩, hB⟩ hK
    gi_wp2
    have hK' := (KeepsOthers.setCell W ⟨w.heap.size + 1, 0, none⟩ (.bool false)).same D _ hK rfl
    refine ⟨by simp, .inl ⟨_, _, rfl, run_takeDeferred hK', ?_⟩⟩
    have hc5 := cell_kept (World.cell?_setCell_same' W ⟨w.heap.size + 1, 0, none⟩ (.bool false) (by rw [hcr]; rfl)) (grownBy_putObj' _ D (.deferred none)) (fun r e => by cases e; exact ⟨_, hK', rfl⟩)
    refine ⟨.bool false, by simp [results, Tryd.f96, go_sem, hc5], ?_, (hB.setCell (p := ⟨w.heap.size + 1, 0, none⟩) (by simp) _).trans (belowK_b (w := w) (Nat.le_refl _) _ D _ _ (by simp at hD; omega) hK' rfl rfl)⟩
    have : beaten leG zs z = false := by
      unfold beaten
      rw [List.any_eq_false]
      intro o ho
      rw [← pairs_all zs] at ho
      obtain ⟨p, hp, rfl⟩ := List.mem_map.1 ho
      rw [hne p hp]; simp
    rw [this]
  case stop =>
    rintro D c pre W hD ⟨k, hk, rfl⟩ ⟨⟨rfl, ⟨p, hp, hbt⟩, hcr⟩, hB⟩ hK
    gi_wp2
    refine ⟨by simp, .inl ⟨_, _, rfl, run_takeDeferred hK, ?_⟩⟩
    have hc5 := cell_kept hcr (grownBy_putObj' _ D (.deferred none)) (fun r e => by cases e; exact ⟨_, hK, rfl⟩)
    refine ⟨.bool true, by simp [results, Tryd.f96, go_sem, hc5], ?_, hB.trans (belowK_b (w := w) (Nat.le_refl _) W D _ _ (by simp at hD; omega) hK rfl rfl)⟩
    have : beaten leG zs z = true := by
      unfold beaten
      rw [List.any_eq_true]
      refine ⟨p.2, ?_, hbt⟩
      have : p.2 ∈ (pairs zs k).map (·.2) := List.mem_map.2 ⟨p, hp, rfl⟩
      rw [pairs_snd zs k hk] at this
      exact List.mem_of_mem_take this
    rw [this]

set_option maxRecDepth 100000 in
set_option maxHeartbeats 4000000 in
theorem wo69 (m : Int) (a : Option Addr) (c : Nat) (zs : List Int) (P Q : Nat) (z : Int) (w : World) (ha : Ints w w.heap.size a zs) (hx : zs.length ≤ 1048576)
    (p0 : w.cell? ⟨P, 0, none⟩ = some (.int .i64 m)) (p1 : w.cell? ⟨P, 1, none⟩ = some (.slice a zs.length c)) (q0 : w.cell? ⟨Q, 0, none⟩ = some (.func (.func 88) #[] #[])) :
    Calls Tryd.prog 96 #[.int .i64 z, .pointer (some ⟨P, 0, none⟩), .pointer (some ⟨Q, 0, none⟩)] w fun e w' => e = .returned (.bool (beaten geG zs z)) ∧ Below w.heap.size w w' := by
  have HI := Lib.hid ha
  have hP : P < w.heap.size := lt_of_cell p0
  have hQ : Q < w.heap.size := lt_of_cell q0
  have Q0 := Lib.hid q0
  clear ha q0
  refine (callsIn_wide (n := 6)).1 ?_
  refine callsIn_of_wp_marks Tryd.func96 rfl trivial ?_ rfl
  simp only [Tryd.ntmps96, List.size_toArray, List.length_cons, List.length_nil, Nat.reduceAdd, Nat.reduceSub, Array.replicate_succ, Array.replicate_zero, List.push_toArray, List.append_toArray, List.nil_append, List.cons_append]
  have b1 : Below w.heap.size w ((w.alloc (.cells #[.int .i64 z] 3)).alloc (.cells #[.bool false] 4)) := below2 w _ _
  have y0 := (b1.cell (p := ⟨P, 0, none⟩) hP).trans p0
  have y1 := (b1.cell (p := ⟨P, 1, none⟩) hP).trans p1
  have B1 := Lib.hid b1
  clear b1 p0 p1
  gi_wp2_with (refine ⟨trivial, ?_⟩; gi_at_call 37; refine (callsIn_wide.2 (clubs_any _ _ _ _ _)).mono ?_; rintro e w' ⟨rfl, rfl⟩)
  have HBB : Hid (Below w.heap.size w (((w.alloc (.cells #[.int .i64 z] 3)).alloc (.cells #[.bool false] 4)).alloc (.cells #[.int .i64 m, .slice a zs.length c] 25))) := Lib.hid (below3 w _ _ _)
  have hst := clubs_stops (6 - 1) (by omega) (w.heap.size + 1 + 1) w.heap.size a c zs hx (((w.alloc (.cells #[.int .i64 z] 3)).alloc (.cells #[.bool false] 4)).alloc (.cells #[.int .i64 m, .slice a zs.length c] 25)) (by simp) (by simp; omega)
    ((blk_cell (alloc3_2 w _ _ _) 1).trans (cell2_1 _ _)) (HI.out.below HBB.out)
  have bS : Boxed (((w.alloc (.cells #[.int .i64 z] 3)).alloc (.cells #[.bool false] 4)).alloc (.cells #[.int .i64 m, .slice a zs.length c] 25)) w.heap.size 3 (.int .i64 z) := alloc3_0 w _ _ _
  have bR : Boxed (((w.alloc (.cells #[.int .i64 z] 3)).alloc (.cells #[.bool false] 4)).alloc (.cells #[.int .i64 m, .slice a zs.length c] 25)) (w.heap.size + 1) 4 (.bool false) := alloc3_1 w _ _ _
  have h16 : 1 ≤ 6 := by omega
  refine wpIn_rangeFunc_ownG rfl h16 (gf := 63) (lb := #[.pointer (some ⟨w.heap.size + 1 + 1, 0, none⟩)]) rfl trivial (enters_of Tryd.func63 (by kernel_rfl) rfl)
    hst belowK_t (belowK_b (by simp; omega)) (Below.refl _ _) (fun _ => rfl)
    (fun pre W => ((∀ p ∈ pre, beatBy geG z p.2 = false) ∧ W.cell? ⟨w.heap.size, 0, none⟩ = some (.int .i64 z) ∧ W.cell? ⟨w.heap.size + 1, 0, none⟩ = some (.bool false) ∧ W.frozen? ⟨w.heap.size + 1, 0, none⟩ = false) ∧ Below w.heap.size w W)
    (fun c pre W => (c = .ret ∧ (∃ p ∈ pre, beatBy geG z p.2 = true) ∧ W.cell? ⟨w.heap.size + 1, 0, none⟩ = some (.bool true)) ∧ Below w.heap.size w W)
    (OwnFrom.and (Own.from (fun s A B row hs hg hr => ⟨hs.1, cell_kept hs.2.1 hg hr, cell_kept hs.2.2.1 hg hr, (frozen_kept hs.2.2.1 hg hr).trans hs.2.2.2⟩) _) (ownFrom_below (Nat.le_refl _) (by simp; omega)))
    (fun c => OwnFrom.and (Own.from (fun s A B row hs hg hr => ⟨hs.1, hs.2.1, cell_kept hs.2.2 hg hr⟩) _) (ownFrom_below (Nat.le_refl _) (by simp; omega)))
    ⟨⟨by simp, bS.cell, bR.cell, bR.frozen⟩, HBB.out⟩
    (fun x => { tmps := #[.int .i64 z, .pointer (some ⟨P, 0, none⟩), .pointer (some ⟨Q, 0, none⟩), .pointer (some ⟨w.heap.size, 0, none⟩), .pointer (some ⟨w.heap.size + 1, 0, none⟩), undef, .int .i64 x.2, .agg #[.int .i64 m, .slice a zs.length c], .func (.func 63) #[] #[.pointer (some ⟨w.heap.size + 1 + 1, 0, none⟩)], .int .i64 (x.1 : Int), .int .i64 x.2, undef, undef, undef, undef, undef, undef, undef, undef, undef], defers := [] }) ?assign ?body ?done ?stop
  case assign =>
    intro l x W K hK
    gi_wp2
    exact hK
  case body =>
    rintro l pre x W ⟨⟨hp, hcz, hcr, hfr⟩, hB⟩ _
    have hq := (hB.cell (p := ⟨Q, 0, none⟩) hQ).trans Q0.out
    have HB := Lib.hid hB
    have HP := Lib.hid hp
    clear hB hp
    by_cases hne : x.2 = z
    · have hb : (x.2 != z) = false := by rw [hne]; simp
      have HN : Hid (beatBy geG z x.2 = false) := Lib.hid (by unfold beatBy; rw [hb]; rfl)
      clear hne
      gi_wp2
      refine ⟨fun _ h => (by cases h), ?_⟩
      gi_wp2
      exact ⟨(KeepsOthers.refl _).from _, Below.refl _ _, ⟨fun p hp => (List.mem_append.1 hp).elim (HP.out p) (fun e => (List.mem_singleton.1 e) ▸ HN.out), hcz, hcr, hfr⟩, HB.out⟩
    · have hb : (x.2 != z) = true := by rw [bne_iff_ne]; exact hne
      clear hne
      cases hg : geG x.2 z
      · have HN : Hid (beatBy geG z x.2 = false) := Lib.hid (by unfold beatBy; rw [hb, hg]; rfl)
        have HG := Lib.hid hg
        clear hg
        gi_wp2_with (refine ⟨trivial, ?_⟩; gi_at_call 88; refine (CallsIn.inRound l (callsIn_wide.2 (greatest1_any _ _ _))).mono ?_; rintro e w2 ⟨rfl, rfl⟩; rw [HG.out])
        exact ⟨(KeepsOthers.refl _).from _, Below.refl _ _, ⟨fun p hp => (List.mem_append.1 hp).elim (HP.out p) (fun e => (List.mem_singleton.1 e) ▸ HN.out), hcz, hcr, hfr⟩, HB.out⟩
      · have HN : Hid (beatBy geG z x.2 = true) := Lib.hid (by unfold beatBy; rw [hb, hg]; rfl)
        have HG := Lib.hid hg
        clear hg
        gi_wp2_with (refine ⟨trivial, ?_⟩; gi_at_call 88; refine (CallsIn.inRound l (callsIn_wide.2 (greatest1_any _ _ _))).mono ?_; rintro e w2 ⟨rfl, rfl⟩; rw [HG.out])
        exact ⟨(KeepsOthers.setCell _ _ _).from _, ⟨rfl, ⟨x, by simp, HN.out⟩, World.cell?_setCell_same' _ _ _ (by rw [hcr]; rfl)⟩, HB.out.setCell (p := ⟨w.heap.size + 1, 0, none⟩) (by simp) _⟩
  case done =>
    rintro D ys W hD rfl ⟨⟨hne, _, hcr, hfr⟩, hB⟩ hK
    gi_wp2
    have hK' := (KeepsOthers.setCell W ⟨w.heap.size + 1, 0, none⟩ (.bool false)).same D _ hK rfl
    refine ⟨by simp, .inl ⟨_, _, rfl, run_takeDeferred hK', ?_⟩⟩
    have hc5 := cell_kept (World.cell?_setCell_same' W ⟨w.heap.size + 1, 0, none⟩ (.bool false) (by rw [hcr]; rfl)) (grownBy_putObj' _ D (.deferred none)) (fun r e => by cases e; exact ⟨_, hK', rfl⟩)
    refine ⟨.bool false, by simp [results, Tryd.f96, go_sem, hc5], ?_, (hB.setCell (p := ⟨w.heap.size + 1, 0, none⟩) (by simp) _).trans (belowK_b (w := w) (Nat.le_refl _) _ D _ _ (by simp at hD; omega) hK' rfl rfl)⟩
    have : beaten geG zs z = false := by
      unfold beaten
      rw [List.any_eq_false]
      intro o ho
      rw [← pairs_all zs] at ho
      obtain ⟨p, hp, rfl⟩ := List.mem_map.1 ho
      rw [hne p hp]; simp
    rw [this]
  case stop =>
    rintro D c pre W hD ⟨k, hk, rfl⟩ ⟨⟨rfl, ⟨p, hp, hbt⟩, hcr⟩, hB⟩ hK
    gi_wp2
    refine ⟨by simp, .inl ⟨_, _, rfl, run_takeDeferred hK, ?_⟩⟩
    have hc5 := cell_kept hcr (grownBy_putObj' _ D (.deferred none)) (fun r e => by cases e; exact ⟨_, hK, rfl⟩)
    refine ⟨.bool true, by simp [results, Tryd.f96, go_sem, hc5], ?_, hB.trans (belowK_b (w := w) (Nat.le_refl _) W D _ _ (by simp at hD; omega) hK rfl rfl)⟩
    have : beaten geG zs z = true := by
      unfold beaten
      rw [List.any_eq_true]
      refine ⟨p.2, ?_, hbt⟩
      have : p.2 ∈ (pairs zs k).map (·.2) := List.mem_map.2 ⟨p, hp, rfl⟩
      rw [pairs_snd zs k hk] at this
      exact List.mem_of_mem_take this
    rw [this]

end Go.Proofs.YtphddemilibooaaDoor

/- It is proved what wantedBy and atLeast return; conditions: those of each statement. -/
namespace Go.Proofs.YtphddemilibooaaDoor
open Go.RowKit Go.Shelf

def z5 : Array Value := #[Value.int IntKind.i64 0, Value.int IntKind.i64 0, Value.int IntKind.i64 0, Value.int IntKind.i64 0, Value.int IntKind.i64 0]
end Go.Proofs.YtphddemilibooaaDoor
