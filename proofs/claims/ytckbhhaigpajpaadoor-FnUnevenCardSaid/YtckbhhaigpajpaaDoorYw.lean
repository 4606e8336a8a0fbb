/- It is proved that what is left of a forest, links left out, is a forest, and that forests fall apart; conditions: those of each statement. -/
import Derived.RowKit
import Derived.Laws.CopyRow
import Derived.Lib.SlBuf
import Derived.Deep.QuietTactic
import Derived.RangeFuncNested
import Derived.RangeFuncBound
import Derived.RangeFuncCalls
import Derived.RangeFuncLeaves
import Derived.RangeFuncBox
import Derived.RangeFuncWrites
import Derived.StillTailTactics
import Derived.Maps.OwnIn
import Derived.Maps.Ext
import Derived.DeepKeys4
import Derived.MapKept
import Derived.Test.YtckbhhaigpajpaaDoorRows
import Derived.WalkKit
import Derived.WalkSpells
import Derived.ProofKit
import Derived.OpenShut
import Derived.ShutString
import Derived.ChangeOld
import Derived.Below
import Derived.Deep.RegionHeld3
import Derived.BigQuiet
import Derived.Lib.Hide
import Derived.Lib.SmallJoins
import Derived.Outline
import Derived.Laws.MakeOwn
import Derived.Laws.OwnMore
import Derived.IntWalk
import Derived.Maps.AppendAt
import Derived.Sort.MapsRangeIn
import Derived.Deep.RegionLaw
import Derived.Deep.AppendLies
import Derived.Lib.AppendZeros
import Derived.OwnWalk
import Derived.Lib.SlicesCompact
import Derived.Lib.OwnBridge
import Derived.OrdersIn
import Derived.TacticsIn
import Derived.Shelf.Sort.Plain
import Derived.Shelf.Slices.In.SortNone
import Derived.Shelf.Slices.CompactI
import Derived.Ground.Names2Prog
import Derived.Lib.SliceRun
import Derived.Shelf.Abstract
import Derived.Shelf.RegionOpen
import Derived.OwnWalkIn
import Derived.TacticsInMore
import Derived.LoopNIn
import Derived.LoopIn
import Derived.StillTail
import Derived.StillTactics
import Derived.Shelf.Spec.TrailingZeros
import Derived.Deep.LoopGhost
import Derived.Test.YtckbhhaigpajpaaDoorRaab
import Derived.Test.YtckbhhaigpajpaaDoorRaad
import Derived.Test.YtckbhhaigpajpaaDoorRaaf
import Derived.Test.YtckbhhaigpajpaaDoorRaag
import Derived.Test.YtckbhhaigpajpaaDoorRaah
import Derived.Test.YtckbhhaigpajpaaDoorRaai
import Derived.Test.YtckbhhaigpajpaaDoorRaaj
import Derived.Test.YtckbhhaigpajpaaDoorRaak
import Derived.Test.YtckbhhaigpajpaaDoorYt
namespace Go.Proofs.YtckbhhaigpajpaaDoor
open Go.RowKit

/-- Each link is a bridge: without it, both its ends are apart. -/
def Br (b : Nat → Nat → Prop) : Prop := ∀ j v, b j v → ∃ CM CJ : Nat → Prop, (∀ j' v', ¬ (j' = j ∧ v' = v) → b j' v' → (CM v' ↔ CJ j')) ∧ ¬ (CM v ↔ CJ j)

theorem Br.mono {b b' : Nat → Nat → Prop} (h : Br b) (f g : Nat → Nat) (hb : ∀ j v, b' j v → b (f j) (g v)) (hi : ∀ j v j' v', b' j v → b' j' v' → f j' = f j → g v' = g v → j' = j ∧ v' = v) : Br b' := fun j v hjv => by
  obtain ⟨CM, CJ, h1, h2⟩ := h (f j) (g v) (hb j v hjv)
  exact ⟨fun v => CM (g v), fun j => CJ (f j), fun j' v' hne hb' => h1 _ _ (fun e => hne (hi j v j' v' hjv hb' e.1 e.2)) (hb j' v' hb'), h2⟩

theorem Br.dual {b : Nat → Nat → Prop} (h : Br b) : Br fun v j => b j v := fun v j hjv => by
  obtain ⟨CM, CJ, h1, h2⟩ := h j v hjv
  exact ⟨CJ, CM, fun j' v' hne hb' => (h1 _ _ (fun e => hne ⟨e.2, e.1⟩) hb').symm, fun e => h2 e.symm⟩

def bK (ks : List Nat) (j v : Nat) : Prop := (ks[j]?.getD 0).testBit v = true
def bZ (zs : List Int) (j v : Nat) : Prop := Bt v (zs[j]?.getD 0) = true
theorem bK_of (zs : List Int) (j v : Nat) : bK (ksOf zs) j v ↔ bZ zs j v := by
  unfold bK bZ
  rw [ksOf_at]
  exact Iff.rfl

theorem bK_in {m : Nat} {ks : List Nat} (h : Ksm m ks) {j v : Nat} (hb : bK ks j v) : j < ks.length ∧ v < m := by
  unfold bK at hb
  have hj : j < ks.length := by
    by_cases e : j < ks.length
    · exact e
    · rw [List.getElem?_eq_none (by omega), Option.getD_none, Nat.zero_testBit] at hb; cases hb
  refine ⟨hj, ?_⟩
  by_cases e : v < m
  · exact e
  · rw [List.getElem?_eq_getElem hj, Option.getD_some, Nat.testBit_lt_two_pow (Nat.lt_of_lt_of_le (h.lt _ (List.getElem_mem hj)) (Nat.pow_le_pow_right (by decide) (by omega)))] at hb
    cases hb

theorem linksV_mem {m : Nat} {ks : List Nat} {i v : Nat} (hv : v ≤ m) {e : Nat × Nat} (h : e ∈ linksV m ks i v) : ∃ j u, e = (u, m + j) ∧ u < m ∧ bK ks j u ∧ ¬ (j = i ∧ u = v) := by
  unfold linksV at h
  rcases List.mem_append.1 h with h | h
  · obtain ⟨j, u, h1, h2, h3, rfl⟩ := links_mem.1 h
    exact ⟨j, u, rfl, h2, h3, fun e => by omega⟩
  · obtain ⟨u, hu, rfl⟩ := List.mem_map.1 h
    unfold bitsL at hu
    obtain ⟨h1, h2⟩ := List.mem_filter.1 hu
    have := List.mem_range.1 h1
    exact ⟨i, u, rfl, by omega, h2, fun e => by omega⟩

theorem br_ok {m : Nat} {ks : List Nat} (hb : Br (bK ks)) : ∀ i, okL id (linksL m ks i) = true
  | 0 => rfl
  | i + 1 => by
    have key : ∀ v, v ≤ m → okL id (linksV m ks i v) = true := by
      intro v
      induction v with
      | zero => exact fun _ => by rw [linksV_zero]; exact br_ok hb i
      | succ v ih =>
        intro hv
        have ih' := ih (by omega)
        cases hbit : (ks[i]?.getD 0).testBit v
        · rw [linksV_no hbit]; exact ih'
        · rw [linksV_yes hbit, okL_snoc, ih', Bool.true_and, decide_eq_true_eq]
          intro heq
          obtain ⟨CM, CJ, h1, h2⟩ := hb i v hbit
          refine h2 ?_
          have hk : (if v < m then CM v else CJ (v - m)) ↔ (if m + i < m then CM (m + i) else CJ (m + i - m)) := run_keeps (C := fun x => if x < m then CM x else CJ (x - m)) (linksV m ks i v) id (fun e he => by
            obtain ⟨j, u, rfl, hu, hbu, hne⟩ := linksV_mem (by omega) he
            show (if u < m then CM u else CJ (u - m)) ↔ (if m + j < m then CM (m + j) else CJ (m + j - m))
            rw [if_pos hu, if_neg (by omega), Nat.add_sub_cancel_left]
            exact h1 j u hne hbu) (fun x y e => by rw [show x = y from e]) v (m + i) heq
          rw [if_pos (by omega), if_neg (by omega), Nat.add_sub_cancel_left] at hk
          exact hk
    rw [← linksV_all]
    exact key m (Nat.le_refl _)

theorem run_congr {E F : List (Nat × Nat)} (h : ∀ e ∈ E, e ∈ F) {x y : Nat} (hxy : runL E x = runL E y) : runL F x = runL F y :=
  (run_keeps (C := fun z => runL F z = runL F y) E id (fun e he => by
    have := run_links F id e (h e he)
    show runL F e.1 = _ ↔ runL F e.2 = _
    rw [show runL F e.1 = runL F e.2 from this]) (fun x y e => by rw [show x = y from e]) x y hxy).2 rfl

theorem cnt_congr {L L' : Nat → Nat} (N : Nat) (h : ∀ x y, L x = L y ↔ L' x = L' y) : cntL6 L N = cntL6 L' N := by
  unfold cntL6
  refine List.countP_congr fun x _ => ?_
  rw [headL_iff, headL_iff]
  exact ⟨fun hq y hy e => hq y hy ((h y x).2 e), fun hq y hy e => hq y hy ((h y x).1 e)⟩

theorem ok_br {m : Nat} {ks : List Nat} (h : Ksm m ks) (ho : okL id (linksL m ks ks.length) = true) : Br (bK ks) := fun j v hjv => by
  obtain ⟨hj, hv⟩ := bK_in h hjv
  obtain ⟨E, hE⟩ : ∃ E, E = linksL m ks ks.length := ⟨_, rfl⟩
  have hmem : (v, m + j) ∈ E := by rw [hE]; exact links_mem.2 ⟨j, v, hj, hv, hjv, rfl⟩
  have hN : ∀ e ∈ E, e.1 < m + ks.length ∧ e.2 < m + ks.length := fun e he => by
    rw [hE] at he
    obtain ⟨j, v, hj, hv, _, rfl⟩ := links_mem.1 he
    exact ⟨by show v < _; omega, by show m + j < _; omega⟩
  rw [← hE] at ho
  have c1 := ((ok_count E id hN).2).1 ho
  obtain ⟨A, B, hAB⟩ := List.append_of_mem hmem
  have hsub : ∀ e, e ∈ E ↔ e ∈ (A ++ B) ++ [(v, m + j)] := fun e => by
    rw [hAB]; simp only [List.mem_append, List.mem_cons, List.not_mem_nil, or_false]
    constructor
    · rintro (h | h | h)
      · exact .inl (.inl h)
      · exact .inr h
      · exact .inl (.inr h)
    · rintro ((h | h) | h)
      · exact .inl h
      · exact .inr (.inr h)
      · exact .inr (.inl h)
  have hlen : E.length = ((A ++ B) ++ [(v, m + j)]).length := by rw [hAB]; simp
  have hc : cntL6 (runL E) (m + ks.length) = cntL6 (runL ((A ++ B) ++ [(v, m + j)])) (m + ks.length) := cnt_congr _ fun x y => ⟨run_congr fun e he => (hsub e).1 he, run_congr fun e he => (hsub e).2 he⟩
  have ho' := ((ok_count ((A ++ B) ++ [(v, m + j)]) id (fun e he => hN e ((hsub e).2 he))).2).2 (by
    have : (List.foldl joinL id E) = runL E := rfl
    rw [this, hc, hlen] at c1
    exact c1)
  rw [okL_snoc, Bool.and_eq_true, decide_eq_true_eq] at ho'
  have hne : runL (A ++ B) v ≠ runL (A ++ B) (m + j) := ho'.2
  refine ⟨fun x => runL (A ++ B) x = runL (A ++ B) v, fun x => runL (A ++ B) (m + x) = runL (A ++ B) v, fun j' v' hx hb' => ?_, fun e => hne (e.1 rfl).symm⟩
  obtain ⟨hj', hv'⟩ := bK_in h hb'
  have hm : (v', m + j') ∈ (A ++ B) ++ [(v, m + j)] := (hsub _).1 (by rw [hE]; exact links_mem.2 ⟨j', v', hj', hv', hb', rfl⟩)
  rcases List.mem_append.1 hm with hm | hm
  · have := run_links (A ++ B) id _ hm
    show runL (A ++ B) v' = _ ↔ runL (A ++ B) (m + j') = _
    rw [show runL (A ++ B) v' = runL (A ++ B) (m + j') from this]
  · have e := List.mem_singleton.1 hm
    injection e with e1 e2
    exact (hx ⟨by omega, e1⟩).elim

theorem ksm_sets {m : Nat} (hm : m ≤ 6) {zs : List Int} (h : Sets m zs) : Ksm m (ksOf zs) := ⟨hm, fun k hk => by
  obtain ⟨z, hz, rfl⟩ := List.mem_map.1 hk
  exact (h z hz).2⟩

theorem br_iff {m : Nat} (hm : m ≤ 6) {zs : List Int} (h : Sets m zs) : okL id (linksL m (ksOf zs) zs.length) = true ↔ Br (bZ zs) := by
  have hl : (ksOf zs).length = zs.length := by simp [ksOf]
  have e : bK (ksOf zs) = bZ zs := by funext j v; exact propext (bK_of zs j v)
  constructor
  · intro ho
    rw [← e]
    exact ok_br (ksm_sets hm h) (by rw [hl]; exact ho)
  · intro hb
    rw [← e] at hb
    exact br_ok hb _

theorem br_mem {zs ys : List Int} (hn : ys.Nodup) (hs : ∀ y ∈ ys, y ∈ zs) (h : Br (bZ zs)) : Br (bZ ys) := by
  have hf : ∀ j, ∃ i, j < ys.length → zs[i]? = ys[j]? := fun j => by
    by_cases hj : j < ys.length
    · obtain ⟨i, hi⟩ := List.mem_iff_getElem?.1 (hs _ (List.getElem_mem hj))
      exact ⟨i, fun _ => by rw [hi, List.getElem?_eq_getElem hj]⟩
    · exact ⟨0, fun h => (hj h).elim⟩
  obtain ⟨f, hf⟩ := Classical.axiomOfChoice hf
  have hin : ∀ j v, bZ ys j v → j < ys.length := fun j v hb => by
    by_cases e : j < ys.length
    · exact e
    · unfold bZ Bt at hb
      rw [List.getElem?_eq_none (by omega), Option.getD_none] at hb
      simp at hb
  refine h.mono f id (fun j v hb => ?_) fun j v j' v' hb hb' e1 e2 => ⟨?_, e2⟩
  · have := hf j (hin j v hb)
    show Bt v (zs[f j]?.getD 0) = true
    rw [this]
    exact hb
  · have h1 := hf j (hin j v hb)
    have h2 := hf j' (hin j' v' hb')
    rw [e1, h1] at h2
    have hj := hin j v hb
    have hj' := hin j' v' hb'
    rw [List.getElem?_eq_getElem hj, List.getElem?_eq_getElem hj'] at h2
    exact ((List.getElem_inj hn).1 (Option.some.inj h2)).symm

theorem br_map {m : Nat} (hm : m ≤ 6) {v : Nat} (hv : v < 6) {zs : List Int} (hS : Sets m zs) (h : Br (bZ zs)) : Br (bZ (zs.map (woZ v))) := by
  refine h.mono id id (fun j u hb => ?_) fun j v j' v' _ _ e1 e2 => ⟨e1, e2⟩
  unfold bZ at hb ⊢
  rw [List.getElem?_map] at hb
  cases hz : zs[j]? with
  | none => rw [hz] at hb; simp [Bt] at hb
  | some z =>
    rw [hz] at hb
    simp only [Option.map_some, Option.getD_some] at hb
    have hzm := hS z (List.mem_of_getElem? hz)
    show Bt u (zs[j]?.getD 0) = true
    rw [hz, Option.getD_some]
    have hu : u < 6 := by
      by_cases e : u < m
      · omega
      · have := (woZ_sets (v := v) hS) (woZ v z) (List.mem_map.2 ⟨z, List.mem_of_getElem? hz, rfl⟩)
        have hl := bt_lt this.2 hb
        omega
    rw [woZ_bit (p64 hm hzm.2) hu hv, Bool.and_eq_true] at hb
    exact hb.1

theorem br_red {m : Nat} (hm : m ≤ 6) {G N : List Int} (h : Red m G N) : ∀ (_ : Sets m G) (_ : Br (bZ G)), Br (bZ N) := by
  induction h with
  | refl _ => exact fun _ hb => hb
  | @head G N v hv _ _ ih =>
    intro hS hb
    exact ih (stepZ_sets hS) (br_mem (gr_nodup _) (fun _ hy => gr_sub hy) (br_map hm (by omega) hS hb))

theorem br_redZ {m : Nat} (hm : m ≤ 6) {zs : List Int} (hS : Sets m zs) (h : Br (bZ zs)) : Br (bZ (redZ m zs)) :=
  br_red hm (redZ_done hm hS).1 (gr_sets hS) (br_mem (gr_nodup _) (fun _ hy => gr_sub hy) h)

set_option maxRecDepth 100000 in
theorem memK_fin : ∀ z : Fin 64, (memK 8 z.val).length = (if z.val.testBit 0 then 1 else 0) + (if z.val.testBit 1 then 1 else 0) + (if z.val.testBit 2 then 1 else 0) + (if z.val.testBit 3 then 1 else 0) + (if z.val.testBit 4 then 1 else 0) + (if z.val.testBit 5 then 1 else 0) := by decide +kernel

theorem memK_bt {z : Int} (h : z.toNat < 64) : (memK 8 z.toNat).length = (if Bt 0 z = true then 1 else 0) + (if Bt 1 z = true then 1 else 0) + (if Bt 2 z = true then 1 else 0) + (if Bt 3 z = true then 1 else 0) + (if Bt 4 z = true then 1 else 0) + (if Bt 5 z = true then 1 else 0) := memK_fin ⟨_, h⟩
theorem siz_degs : ∀ (N : List Int), (∀ z ∈ N, 0 ≤ z ∧ z.toNat < 64) → (∀ z ∈ N, z ≠ 0) → sizN N = N.countP (Bt 0) + N.countP (Bt 1) + N.countP (Bt 2) + N.countP (Bt 3) + N.countP (Bt 4) + N.countP (Bt 5)
  | [], _, _ => by simp [sizN]
  | z :: N, h, h0 => by
    have ih := siz_degs N (fun z hz => h z (by simp [hz])) fun z hz => h0 z (by simp [hz])
    have e4 : sizN (z :: N) = ((memK 8 z.toNat).length + if z = 0 then 1 else 0) + sizN N := by simp [sizN]
    have hm := memK_bt (h z (by simp)).2
    rw [e4, if_neg (h0 z (by simp)), ih, hm]
    simp only [List.countP_cons]
    omega

theorem siz_two : ∀ (N : List Int), (∀ z ∈ N, 2 ≤ (memK 8 z.toNat).length) → 2 * N.length ≤ sizN N
  | [], _ => by simp
  | z :: N, h => by
    have ih := siz_two N fun z hz => h z (by simp [hz])
    have e4 : sizN (z :: N) = ((memK 8 z.toNat).length + if z = 0 then 1 else 0) + sizN N := by simp [sizN]
    have := h z (by simp)
    rw [e4, List.length_cons]
    omega

theorem mb_six (N : List Int) : mbN N = (if N.any (Bt 0) then 1 else 0) + (if N.any (Bt 1) then 1 else 0) + (if N.any (Bt 2) then 1 else 0) + (if N.any (Bt 3) then 1 else 0) + (if N.any (Bt 4) then 1 else 0) + (if N.any (Bt 5) then 1 else 0) := by
  unfold mbN
  rw [show List.range 6 = [0, 1, 2, 3, 4, 5] from rfl]
  simp only [List.countP_cons, List.countP_nil]
  omega

theorem any_cnt {N : List Int} {v : Nat} (h : N.countP (Bt v) ≠ 1) : 2 * (if N.any (Bt v) then 1 else 0) ≤ N.countP (Bt v) := by
  split
  · rename_i ha
    have : 0 < N.countP (Bt v) := by
      rw [List.countP_pos_iff]
      obtain ⟨z, hz, hb⟩ := List.any_eq_true.1 ha
      exact ⟨z, hz, hb⟩
    omega
  · omega

theorem cnt_not (p : Nat → Bool) : ∀ m, (List.range m).countP p + (List.range m).countP (fun v => !p v) = m
  | 0 => rfl
  | m + 1 => by
    have := cnt_not p m
    rw [List.range_succ, List.countP_append, List.countP_append, List.countP_singleton, List.countP_singleton]
    cases p m <;> simp <;> omega

theorem cnt_cut (p : Nat → Bool) {k : Nat} (hp : ∀ v, k ≤ v → p v = false) : ∀ n, k ≤ n → (List.range n).countP p = (List.range k).countP p
  | 0, h => by obtain rfl : k = 0 := by omega
               rfl
  | n + 1, h => by
    by_cases e : k = n + 1
    · subst e; rfl
    · rw [List.range_succ, List.countP_append, List.countP_singleton, cnt_cut p hp n (by omega), hp n (by omega)]
      simp

/-- More parts than members of no club. -/
theorem parts_more {m : Nat} (hm : m ≤ 6) {N : List Int} (hS : Sets m N) (hu : 0 < mbN N) : m + 1 ≤ cntP m (ksOf N) m + mbN N := by
  have h := ksm_sets hm hS
  obtain ⟨p, hp⟩ : ∃ p : Nat → Bool, p = fun v => N.any (Bt v) := ⟨_, rfl⟩
  have hpz : ∀ v, m ≤ v → p v = false := fun v hv => by
    rw [hp]
    cases ha : N.any (Bt v)
    · exact ha
    · obtain ⟨z, hz, hb⟩ := List.any_eq_true.1 ha
      have := bt_lt (hS z hz).2 hb
      omega
  have hmb : (List.range m).countP p = mbN N := by
    unfold mbN
    rw [← hp, cnt_cut p hpz 6 hm]
  have hcn := cnt_not p m
  obtain ⟨v0, hv0m, hv0⟩ : ∃ v, v < m ∧ p v = true := by
    rw [← hmb] at hu
    obtain ⟨v, hv, hb⟩ := List.countP_pos_iff.1 hu
    exact ⟨v, List.mem_range.1 hv, hb⟩
  obtain ⟨u0, hu1, hu2, hu3⟩ := least_node (P := fun v => p v = true) (n := v0) hv0
  have hno : ∀ v, p v = false → ∀ k ∈ ksOf N, k.testBit v = false := fun v hv k hk => by
    obtain ⟨z, hz, rfl⟩ := List.mem_map.1 hk
    cases hb : z.toNat.testBit v
    · rfl
    · have : p v = true := by rw [hp]; exact List.any_eq_true.2 ⟨z, hz, hb⟩
      rw [hv] at this; cases this
  have h1 : (List.range m).countP (fun v => !p v) + 1 = (List.range m).countP (fun v => !p v || decide (v = u0)) :=
    count_one (z := u0) (by omega) (by simp) (by simp [hu2]) fun x _ hne => by simp [hne]
  have h2 : (List.range m).countP (fun v => !p v || decide (v = u0)) ≤ (List.range m).countP (firstP m (ksOf N)) := by
    refine List.countP_mono_left fun v hv hq => ?_
    have hvm := List.mem_range.1 hv
    rw [firstP_iff h hvm]
    intro u huv
    cases hb : (partP m (ksOf N) u).testBit v
    · rfl
    · rw [Bool.or_eq_true, decide_eq_true_eq] at hq
      rcases hq with hq | hq
      · have hpv : p v = false := by simpa using hq
        have := partP_min (m := m) (ks := ksOf N) (v := u) (C := fun w => w ≠ v) (fun k hk _ i hi e => by
          have hx := hno v hpv k hk
          have e' : i = v := e
          rw [e'] at hi
          rw [hx] at hi; cases hi) (by omega) v hb
        exact (this rfl).elim
      · subst hq
        have hpu : p u = false := by
          cases hx : p u
          · rfl
          · exact (hu3 u huv hx).elim
        have := partP_min (m := m) (ks := ksOf N) (v := u) (C := fun w => w = u) (fun k hk hw i hi => by
          obtain ⟨w, hw1, hw2⟩ := hw
          have hx := hno u hpu k hk
          have e' : w = u := hw2
          rw [e', hx] at hw1; cases hw1) rfl v hb
        have e' : v = u := this
        omega
  have h3 : cntP m (ksOf N) m = (List.range m).countP (firstP m (ksOf N)) := by unfold cntP; rw [List.countP_eq_length_filter]
  omega

/-- Forests fall apart. -/
theorem br_falls {m : Nat} (hm : m ≤ 6) {zs : List Int} (hS : Sets m zs) (h : Br (bZ zs)) : (redZ m zs).length ≤ 1 := by
  obtain ⟨N, hN⟩ : ∃ N, N = redZ m zs := ⟨_, rfl⟩
  have hb := br_redZ hm hS h
  have hNS := redZ_sets hm hS
  obtain ⟨hr, hd⟩ := redZ_done hm hS
  have hgr := hr.grs hm (gr_sets hS) (gr_gr hm hS)
  rw [← hN] at hb hNS hd hgr ⊢
  by_cases hl : N.length ≤ 1
  · exact hl
  exfalso
  have hnd : N.Nodup := by rw [← hgr]; exact gr_nodup _
  have hap : ∀ z ∈ N, ∀ o ∈ N, subZ z o → o = z := fun z hz o ho hs => by
    rw [← hgr] at hz
    exact ((gr_mem hm hNS z).1 hz).2 o ho hs
  have hoth : ∀ z ∈ N, ∃ o ∈ N, o ≠ z := fun z hz => by
    match N, hl, hnd, hz with
    | [], hl, _, _ => simp at hl
    | [_], hl, _, _ => simp at hl
    | x :: y :: t, _, hnd, hz =>
      have hxy : x ≠ y := fun e => by subst e; simp at hnd
      by_cases e : x = z
      · exact ⟨y, by simp, fun e' => hxy (by rw [e, e'])⟩
      · exact ⟨x, by simp, e⟩
  have h64 : ∀ z ∈ N, 0 ≤ z ∧ z.toNat < 64 := fun z hz => ⟨(hNS z hz).1, p64 hm (hNS z hz).2⟩
  have hz0 : ∀ z ∈ N, z ≠ 0 := fun z hz e => by
    obtain ⟨o, ho, hne⟩ := hoth z hz
    exact hne (hap z hz o ho (by rw [e]; unfold subZ; simp))
  have hc : ∀ v, v < 6 → N.countP (Bt v) ≠ 1 := fun v hv e => by
    have hd1 : D1 v N := (d1_cnt hnd (fun z => Iff.rfl)).2 e
    obtain ⟨x, hx, hbx, _⟩ := hd1
    exact hd v (bt_lt (hNS x hx).2 hbx) ((d1_cnt hnd (fun z => Iff.rfl)).2 e)
  have htwo : ∀ z ∈ N, 2 ≤ (memK 8 z.toNat).length := fun z hz => by
    by_cases e : 2 ≤ (memK 8 z.toNat).length
    · exact e
    exfalso
    have hzn : z.toNat ≠ 0 := fun e' => hz0 z hz (by have := (h64 z hz).1; omega)
    obtain ⟨v, hv⟩ := Nat.exists_testBit_of_ne_zero hzn
    have hvm : v < m := bt_lt (hNS z hz).2 hv
    have hone : ∀ u, z.toNat.testBit u = true → u = v := fun u hu => by
      have hum : u < m := bt_lt (hNS z hz).2 hu
      by_cases e' : u = v
      · exact e'
      · exfalso
        refine e ?_
        have h1 : u ∈ memK 8 z.toNat := List.mem_filter.2 ⟨List.mem_range.2 (by omega), hu⟩
        have h2 : v ∈ memK 8 z.toNat := List.mem_filter.2 ⟨List.mem_range.2 (by omega), hv⟩
        match hk : memK 8 z.toNat, h1, h2 with
        | [], h1, _ => simp at h1
        | [x], h1, h2 =>
          simp only [List.mem_singleton] at h1 h2
          exact (e' (by rw [h1, h2])).elim
        | _ :: _ :: _, _, _ => simp
    refine hc v (by omega) ((d1_cnt hnd (fun z => Iff.rfl)).1 ⟨z, hz, hv, fun y hy hby => ?_⟩)
    refine hap z hz y hy ?_
    unfold subZ
    apply Nat.eq_of_testBit_eq
    intro i
    rw [Nat.testBit_and]
    cases hi : z.toNat.testBit i
    · simp
    · have := hone i hi
      subst this
      rw [show y.toNat.testBit i = true from hby]; rfl
  have hok := (br_iff hm hNS).2 hb
  have hfc := forest_count (ksm_sets hm hNS)
  have hlen : (ksOf N).length = N.length := by simp [ksOf]
  rw [hlen, hok] at hfc
  have hct := of_decide_eq_true hfc.symm
  have hsl := siz_links hm hNS N.length (Nat.le_refl _)
  rw [List.take_length] at hsl
  have hdeg := siz_degs N h64 hz0
  have h2 := siz_two N htwo
  have hmb := mb_six N
  have a0 := any_cnt (hc 0 (by omega))
  have a1 := any_cnt (hc 1 (by omega))
  have a2 := any_cnt (hc 2 (by omega))
  have a3 := any_cnt (hc 3 (by omega))
  have a4 := any_cnt (hc 4 (by omega))
  have a5 := any_cnt (hc 5 (by omega))
  have hpos : 0 < mbN N := by
    rcases Nat.eq_zero_or_pos (mbN N) with e | e
    · exfalso
      obtain ⟨z, hz⟩ : ∃ z, z ∈ N := by
        match N, hl with
        | [], hl => simp at hl
        | x :: _, _ => exact ⟨x, by simp⟩
      have hzn : z.toNat ≠ 0 := fun e' => hz0 z hz (by have := (h64 z hz).1; omega)
      obtain ⟨v, hv⟩ := Nat.exists_testBit_of_ne_zero hzn
      have hvm : v < m := bt_lt (hNS z hz).2 hv
      have : 0 < mbN N := List.countP_pos_iff.2 ⟨v, List.mem_range.2 (by omega), List.any_eq_true.2 ⟨z, hz, hv⟩⟩
      omega
    · exact e
  have hpm := parts_more hm hNS hpos
  omega

end Go.Proofs.YtckbhhaigpajpaaDoor
