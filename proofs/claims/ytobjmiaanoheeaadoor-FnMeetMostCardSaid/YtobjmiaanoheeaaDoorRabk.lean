/- It is proved that the call of the law FnFamily returns true; conditions: those of each statement. -/
import Derived.Test.YtobjmiaanoheeaaDoorRows
import Derived.WalkKit
import Derived.WalkSpells
import Derived.ProofKit
import Derived.OpenShut
import Derived.ShutString
import Derived.ChangeOld
import Derived.Below
import Derived.Deep.RegionHeld3
import Derived.Deep.QuietTactic
import Derived.BigQuiet
import Derived.Lib.Hide
import Derived.Lib.SmallJoins
import Derived.Outline
import Derived.Laws.MakeOwn
import Derived.Laws.OwnMore
import Derived.IntWalk
import Derived.Deep.RegionLaw
import Derived.Deep.AppendLies
import Derived.Deep.RegionWith
import Derived.RangeFuncNested
import Derived.RangeFuncBound
import Derived.RangeFuncCalls
import Derived.RangeFuncLeaves
import Derived.RangeFuncBox
import Derived.Shelf.Abstract
import Derived.Shelf.RegionOpen
import Derived.OwnWalkIn
import Derived.TacticsInMore
import Derived.LoopNIn
import Derived.LoopIn
import Derived.Maps.AppendAt
import Derived.OwnWalk
import Derived.StillTail
import Derived.StillTactics
import Derived.OrdersIn
import Derived.TacticsIn
import Derived.Shelf.Spec.TrailingZeros
import Derived.StillTailTactics
import Derived.Test.YtobjmiaanoheeaaDoorRaab
import Derived.Test.YtobjmiaanoheeaaDoorRabj
import Derived.Test.YtobjmiaanoheeaaDoorRaac
import Derived.Test.YtobjmiaanoheeaaDoorRaad
import Derived.Test.YtobjmiaanoheeaaDoorTc
import Derived.Test.YtobjmiaanoheeaaDoorRaao
import Derived.RowKit
import Derived.Laws.CopyRow
import Derived.Lib.SlBuf
import Derived.RangeFuncWrites
import Derived.Maps.OwnIn
import Derived.Maps.Ext
import Derived.DeepKeys4
import Derived.MapKept
import Derived.Sort.MapsRangeIn
import Derived.Lib.AppendZeros
import Derived.Lib.SlicesCompact
import Derived.Lib.OwnBridge
import Derived.Shelf.Sort.Plain
import Derived.Shelf.Slices.In.SortNone
import Derived.Shelf.Slices.CompactI
import Derived.Ground.Names2Prog
import Derived.Lib.SliceRun
import Derived.Laws.BitsAllLaws
import Derived.Deep.LoopGhost
import Derived.Test.YtobjmiaanoheeaaDoorIb
import Derived.Test.YtobjmiaanoheeaaDoorRaay
import Derived.Test.YtobjmiaanoheeaaDoorRaaz
import Derived.Test.YtobjmiaanoheeaaDoorRabf
import Derived.Test.YtobjmiaanoheeaaDoorIi
import Derived.Test.YtobjmiaanoheeaaDoorRabi
import Derived.Test.YtobjmiaanoheeaaDoorKa
import Derived.Test.YtobjmiaanoheeaaDoorRaai
import Derived.Test.YtobjmiaanoheeaaDoorRaap
import Derived.Test.YtobjmiaanoheeaaDoorKs
import Derived.Test.YtobjmiaanoheeaaDoorRaae
import Derived.Test.YtobjmiaanoheeaaDoorYa
namespace Go.Proofs.YtobjmiaanoheeaaDoor
open Go.RowKit

theorem degs_small {k : Nat} {zs : List Int} (h : famIn (k : Int) zs = true) : ∀ z ∈ degL k (allMem zs), 0 ≤ z ∧ z ≤ 1000 := by
  intro z hz
  obtain ⟨h1, h2, h3, h4⟩ := famIn_out h
  unfold degL at hz
  obtain ⟨v, hv, rfl⟩ := List.mem_map.1 hz
  have hvk := List.mem_range.1 hv
  rw [count_all (by omega) zs (small63 h)]
  have := List.countP_le_length (p := hasM v) (l := zs)
  omega

theorem popG_small {z : Int} (h3 : 0 ≤ z) (h4 : z ≤ 63) : 0 ≤ pop z ∧ pop z ≤ 6 := by
  have h := pop_mem (s := z.toNat) (by omega)
  rw [Int.toNat_of_nonneg h3] at h
  have := mem_length z.toNat (by omega)
  omega

theorem family_facts {m : Int} {zs : List Int} (h : famIn m zs = true) : (famDeg m zs).sum = (sizesZ m zs).sum ∧ ((famDeg m zs).length : Int) = m ∧ (sizesZ m zs).length = zs.length ∧ (∀ z ∈ famDeg m zs, 0 ≤ z ∧ z ≤ 1000) ∧ ∀ z ∈ sizesZ m zs, 0 ≤ z ∧ z ≤ 1000 := by
  obtain ⟨h1, h2, h3, h4⟩ := famIn_out h
  have e1 : sizesZ m zs = zs.map pop := by simp [sizesZ, h]
  rw [e1]
  refine ⟨sums_same h, ?_, by simp, ?_, ?_⟩
  · rw [famDeg, if_pos h, degL_length]; omega
  · obtain ⟨k, rfl⟩ : ∃ k : Nat, m = (k : Int) := ⟨m.toNat, by omega⟩
    rw [famDeg, if_pos h, Int.toNat_natCast]
    exact degs_small h
  · intro y hy
    obtain ⟨z, hz, rfl⟩ := List.mem_map.1 hy
    have := small63 h z hz
    have := popG_small this.1 this.2
    omega

end Go.Proofs.YtobjmiaanoheeaaDoor

/- It is proved how the greatest set of clubs that meet, stars and packs compare, and what the dual of a family with one for all is; conditions: those of each statement. -/
namespace Go.Proofs.YtobjmiaanoheeaaDoor
open Go.RowKit Go.Shelf

theorem count_bit_fin : ∀ s : Fin 64, ∀ v : Fin 6, (mem s.val).count v.val = if s.val.testBit v.val then 1 else 0 := by decide +kernel
theorem countBt_all {zs : List Int} (hz : ∀ z ∈ zs, z.toNat < 64) {v : Nat} (hv : v < 6) : (allMem zs).count v = zs.countP (Bt v) := by
  induction zs with
  | nil => rfl
  | cons z zs ih =>
    have h1 := count_bit_fin ⟨z.toNat, hz z (by simp)⟩ ⟨v, hv⟩
    simp only at h1
    rw [show allMem (z :: zs) = mem z.toNat ++ allMem zs from by simp [allMem], List.count_append, h1, ih (fun y hy => hz y (by simp [hy])), List.countP_cons]
    unfold Bt
    omega

theorem list_range (zs : List Int) : zs = (List.range zs.length).map fun i => zs[i]?.getD 0 := by
  apply List.ext_getElem
  · simp
  · intro i h1 h2; simp [h1]

/-- The places of the clubs with a member. -/
def plN (zs : List Int) (v : Nat) : Nat := dualBits (prsP (pairs zs zs.length)) v

theorem plN_lt (zs : List Int) (v : Nat) : plN zs v < 2 ^ zs.length := dualBits_pow _ _ _
theorem deg_cnt {k : Nat} (hk : k ≤ 6) {zs : List Int} (hS : Sets k zs) (hl : zs.length ≤ 8) {v : Nat} (hv : v < 6) : (allMem zs).count v = cntK 8 (plN zs v) := by
  rw [countBt_all (fun z hz => p64 hk (hS z hz).2) hv]
  unfold cntK
  rw [memW_is hl (plN_lt zs v)]
  unfold memK
  rw [← List.countP_eq_length_filter]
  conv => lhs; rw [list_range zs]
  rw [List.countP_map]
  apply List.countP_congr
  intro i hi
  have hi' := List.mem_range.1 hi
  show Bt v (zs[i]?.getD 0) = true ↔ (plN zs v).testBit i = true
  unfold plN Bt
  rw [du_bit hv]
  exact ⟨fun h => ⟨hi', h⟩, fun h => h.2⟩

theorem tmOf_ge (D : List Int) : ∀ (qs : List Nat) (q : Nat), q ∈ qs → tieB D q = true → cntK 8 q ≤ tmOf D qs := by
  have mono : ∀ (qs : List Nat) (b : Nat), b ≤ qs.foldl (fun b q => if tieB D q then max b (memK 8 q).length else b) b := by
    intro qs
    induction qs with
    | nil => intro b; exact Nat.le_refl _
    | cons q qs ih =>
      intro b
      rw [List.foldl_cons]
      refine Nat.le_trans ?_ (ih _)
      split <;> omega
  have key : ∀ (qs : List Nat) (b q : Nat), q ∈ qs → tieB D q = true → cntK 8 q ≤ qs.foldl (fun b q => if tieB D q then max b (memK 8 q).length else b) b := by
    intro qs
    induction qs with
    | nil => intro b q h; cases h
    | cons x qs ih =>
      intro b q h ht
      rw [List.foldl_cons]
      rcases List.mem_cons.1 h with rfl | h
      · refine Nat.le_trans ?_ (mono qs _)
        rw [if_pos ht]
        unfold cntK
        omega
      · exact ih _ q h ht
  exact fun qs q h ht => key qs 0 q h ht

theorem tmOf_up (D : List Int) (N : Nat) : ∀ (qs : List Nat), (∀ q ∈ qs, tieB D q = true → cntK 8 q ≤ N) → tmOf D qs ≤ N := by
  have key : ∀ (qs : List Nat) (b : Nat), b ≤ N → (∀ q ∈ qs, tieB D q = true → cntK 8 q ≤ N) → qs.foldl (fun b q => if tieB D q then max b (memK 8 q).length else b) b ≤ N := by
    intro qs
    induction qs with
    | nil => intro b hb _; exact hb
    | cons x qs ih =>
      intro b hb h
      rw [List.foldl_cons]
      refine ih _ ?_ (fun q hq => h q (by simp [hq]))
      have hx := h x (by simp)
      unfold cntK at hx
      split
      · rename_i ht
        have := hx ht
        omega
      · exact hb
  exact fun qs h => key qs 0 (by omega) h

theorem tmOf_is (D : List Int) (qs : List Nat) : tmOf D qs = 0 ∨ ∃ q ∈ qs, tieB D q = true ∧ cntK 8 q = tmOf D qs := by
  by_cases h0 : tmOf D qs = 0
  · exact .inl h0
  · right
    apply Classical.byContradiction
    intro hn
    have : tmOf D qs ≤ tmOf D qs - 1 := tmOf_up D _ qs (fun q hq ht => by
      have h1 := tmOf_ge D qs q hq ht
      have h2 : cntK 8 q ≠ tmOf D qs := fun e => hn ⟨q, hq, ht, e⟩
      omega)
    omega

theorem star_ge {k : Nat} {zs : List Int} (hf : famIn (k : Int) zs = true) {v : Nat} (hv : v < k) : ((allMem zs).count v : Int) ≤ starZ (k : Int) zs := by
  unfold starZ
  apply mostI_all
  unfold famDeg
  rw [hf]
  exact List.mem_map.2 ⟨v, List.mem_range.2 hv, rfl⟩

theorem star_is {k : Nat} {zs : List Int} (hf : famIn (k : Int) zs = true) {N : Nat} (h : ∀ v, v < k → (allMem zs).count v ≤ N) : starZ (k : Int) zs ≤ (N : Int) := by
  unfold starZ
  refine mostI_le (by omega) (fun y hy => ?_) _
  unfold famDeg at hy
  rw [hf] at hy
  obtain ⟨v, hv, rfl⟩ := List.mem_map.1 hy
  have := h v (List.mem_range.1 hv)
  omega

theorem star_nn (m : Int) (zs : List Int) : 0 ≤ starZ m zs := mostI_nn _
theorem pl_tie {k : Nat} (hk : k ≤ 6) {zs : List Int} (hS : Sets k zs) (hl : zs.length ≤ 8) {v : Nat} (hv : v < k) (h0 : plN zs v ≠ 0) : tieB (duZ k zs) (plN zs v) = true := by
  rw [du_tie hk hS hl (plN_lt zs v)]
  refine ⟨h0, fun i j hi hj => (met_iff zs i j).2 ⟨v, ?_, ?_⟩⟩
  · exact ((du_bit (by omega) i).1 hi).2
  · exact ((du_bit (by omega) j).1 hj).2

/-- The greatest set of clubs that meet is at least a star. -/
theorem tm_star {m : Int} {zs : List Int} (hf : famIn m zs = true) : starZ m zs ≤ tmZ m zs := by
  obtain ⟨k, rfl, hk1, hk6, hS, hl⟩ := fam_nat2 hf
  unfold tmZ
  rw [hf, if_pos rfl, Int.toNat_natCast]
  refine star_is hf (fun v hv => ?_)
  rw [deg_cnt hk6 hS hl (by omega)]
  by_cases h0 : plN zs v = 0
  · rw [h0, show cntK 8 0 = 0 by decide]; omega
  · exact tmOf_ge _ _ _ (List.mem_range.2 (plN_lt zs v)) (pl_tie hk6 hS hl hv h0)

/-- With one for all, it is one. -/
theorem tm_helly {m : Int} {zs : List Int} (h : hellyB m zs = true) : tmZ m zs = starZ m zs := by
  unfold hellyB at h
  rw [Bool.and_eq_true] at h
  obtain ⟨hf, ht⟩ := h
  have h1 := tm_star hf
  obtain ⟨k, rfl, hk1, hk6, hS, hl⟩ := fam_nat2 hf
  rw [Int.toNat_natCast, tc_iff hl] at ht
  have h2 : tmZ (k : Int) zs ≤ starZ (k : Int) zs := by
    obtain ⟨N, hN⟩ : ∃ N : Nat, starZ (k : Int) zs = (N : Int) := ⟨(starZ (k : Int) zs).toNat, by have := star_nn (k : Int) zs; omega⟩
    rw [hN]
    unfold tmZ
    rw [hf, if_pos rfl, Int.toNat_natCast]
    have : tmOf (duZ k zs) (List.range (2 ^ zs.length)) ≤ N := tmOf_up _ _ _ (fun p hp hti => by
      have hp' := List.mem_range.1 hp
      obtain ⟨v, hv, hall⟩ := (du_in hk6 hp').1 (ht p hp' hti)
      have h3 : cntK 8 p ≤ cntK 8 (plN zs v) := cntK_le fun i hi => (du_bit (by omega) i).2 ⟨nat_bit_lt hp' hi, hall i hi⟩
      rw [← deg_cnt hk6 hS hl (by omega)] at h3
      have h4 := star_ge hf hv
      omega)
    omega
  omega

theorem pack_far (zs : List Int) : ∀ (ps : List Nat) (met : Nat), packB zs ps met = true → ∀ p ∈ ps, (zs[p]?.getD 0).toNat &&& met = 0
  | [], _, _, p, hp => by cases hp
  | x :: ps, met, h, p, hp => by
    rw [packB, Bool.and_eq_true, decide_eq_true_eq] at h
    rcases List.mem_cons.1 hp with rfl | hp
    · exact h.1
    · have h2 := pack_far zs ps _ h.2 p hp
      apply Nat.eq_of_testBit_eq
      intro i
      have h3 := congrArg (fun n => n.testBit i) h2
      simp only [Nat.testBit_and, Nat.testBit_or, Nat.zero_testBit] at h3 ⊢
      cases h4 : (zs[p]?.getD 0).toNat.testBit i <;> cases h5 : met.testBit i <;> simp_all

theorem pack_apart (zs : List Int) : ∀ (ps : List Nat) (met : Nat), packB zs ps met = true → ps.Pairwise fun p q => metN zs p q = false
  | [], _, _ => List.Pairwise.nil
  | x :: ps, met, h => by
    rw [packB, Bool.and_eq_true, decide_eq_true_eq] at h
    refine List.Pairwise.cons (fun p hp => ?_) (pack_apart zs ps _ h.2)
    have h2 := pack_far zs ps _ h.2 p hp
    unfold metN
    rw [decide_eq_false_iff_not, ne_eq, Decidable.not_not]
    apply Nat.eq_of_testBit_eq
    intro i
    have h3 := congrArg (fun n => n.testBit i) h2
    simp only [Nat.testBit_and, Nat.testBit_or, Nat.zero_testBit] at h3 ⊢
    cases h4 : (zs[p]?.getD 0).toNat.testBit i <;> cases h5 : (zs[x]?.getD 0).toNat.testBit i <;> simp_all

theorem one_len {l : List Nat} (hn : l.Nodup) (h : ∀ a ∈ l, ∀ b ∈ l, a = b) : l.length ≤ 1 := by
  match l, hn, h with
  | [], _, _ => simp
  | [_], _, _ => simp
  | a :: b :: l, hn, h =>
    have := h a (by simp) b (by simp)
    subst this
    simp at hn

theorem memK_nodup (k s : Nat) : (memK k s).Nodup := List.Pairwise.filter _ List.nodup_range
theorem mem_K {k s v : Nat} : v ∈ memK k s ↔ v < k ∧ s.testBit v = true := by unfold memK; rw [List.mem_filter, List.mem_range]
theorem pairs_sym {l : List Nat} {R : Nat → Nat → Prop} (hs : ∀ a b, R a b → R b a) (h : l.Pairwise R) : ∀ a ∈ l, ∀ b ∈ l, a ≠ b → R a b := by
  induction h with
  | nil => intro a ha; cases ha
  | cons hx _ ih =>
    intro a ha b hb hne
    rcases List.mem_cons.1 ha with ea | ha'
    · rcases List.mem_cons.1 hb with eb | hb'
      · exact (hne (ea.trans eb.symm)).elim
      · rw [ea]; exact hx b hb'
    · rcases List.mem_cons.1 hb with eb | hb'
      · rw [eb]; exact hs _ _ (hx a ha')
      · exact ih a ha' b hb' hne

/-- A set of clubs that meet and a pack have at most one club in common. -/
theorem tm_pack {m : Int} {zs : List Int} (hf : famIn m zs = true) : tmZ m zs + packZ m zs ≤ (zs.length : Int) + 1 := by
  obtain ⟨k, rfl, hk1, hk6, hS, hl⟩ := fam_nat2 hf
  unfold tmZ packZ
  rw [hf, if_pos rfl, if_pos rfl, Int.toNat_natCast]
  obtain ⟨h1, q, hq, hqb, hql⟩ := packM_most zs 0
  have hqn : cntK zs.length q = packM zs 0 := hql
  rcases tmOf_is (duZ k zs) (List.range (2 ^ zs.length)) with h0 | ⟨p, hp, hti, hpl⟩
  · rw [h0]
    have : cntK zs.length q ≤ zs.length := memK_len _ _
    omega
  · have hp' := List.mem_range.1 hp
    have hpn : cntK zs.length p = tmOf (duZ k zs) (List.range (2 ^ zs.length)) := by rw [← hpl]; unfold cntK; rw [memW_is hl hp']
    have hie := cnt_ie zs.length p q
    have hor : cntK zs.length (p ||| q) ≤ zs.length := memK_len _ _
    obtain ⟨_, htie⟩ := (du_tie hk6 hS hl hp').1 hti
    have hap := pairs_sym (R := fun a b => metN zs a b = false) (fun a b h => by rw [met_comm]; exact h) (pack_apart zs _ _ hqb)
    have hand : cntK zs.length (p &&& q) ≤ 1 := one_len (memK_nodup _ _) (fun a ha b hb => by
      obtain ⟨ha1, ha2⟩ := mem_K.1 ha
      obtain ⟨hb1, hb2⟩ := mem_K.1 hb
      rw [Nat.testBit_and, Bool.and_eq_true] at ha2 hb2
      apply Classical.byContradiction
      intro hne
      have h2 := hap a (mem_K.2 ⟨ha1, ha2.2⟩) b (mem_K.2 ⟨hb1, hb2.2⟩) hne
      rw [htie a b ha2.1 hb2.1] at h2
      cases h2)
    omega

theorem sum_up {N : Int} : ∀ (ys : List Int), (∀ y ∈ ys, y ≤ N) → ys.sum ≤ N * ys.length
  | [], _ => by simp
  | y :: ys, h => by
    have h1 := h y (by simp)
    have h2 := sum_up ys (fun x hx => h x (by simp [hx]))
    rw [List.sum_cons, List.length_cons]
    have : N * ((ys.length + 1 : Nat) : Int) = N * ys.length + N := by
      rw [Int.natCast_add, Int.mul_add]; simp
    omega

theorem star_sum {m : Int} {zs : List Int} (hf : famIn m zs = true) : (sizesZ m zs).sum ≤ starZ m zs * m := by
  obtain ⟨e1, e2, -, -⟩ := family_facts hf
  rw [← e1]
  have := sum_up (N := starZ m zs) (famDeg m zs) (fun y hy => mostI_all y hy)
  rw [e2] at this
  exact this

theorem du_dual {k : Nat} {zs : List Int} (h : dualIn (k : Int) zs = true) : dualM (k : Int) zs = (zs.length : Int) ∧ dualZ (k : Int) zs = duZ k zs ∧ famIn (zs.length : Int) (duZ k zs) = true ∧ duZ zs.length (duZ k zs) = zs := by
  have h' := h
  simp only [dualIn, Bool.and_eq_true, decide_eq_true_eq] at h'
  obtain ⟨hf, h1, h6⟩ := h'
  obtain ⟨e1, -, e3⟩ := dual_dual k zs hf h1 h6
  refine ⟨by unfold dualM; rw [h]; rfl, by unfold dualZ; rw [h, Int.toNat_natCast]; rfl, ?_, ?_⟩
  · unfold dualIn at e1
    rw [Bool.and_eq_true] at e1
    exact e1.1
  · unfold dualZ at e3
    rw [e1] at e3
    exact e3

theorem full_dual {k : Nat} {zs : List Int} (h : dualIn (k : Int) zs = true) (hb : fullB (k : Int) zs = true) : hellyB (dualM (k : Int) zs) (dualZ (k : Int) zs) = true := by
  obtain ⟨e1, e2, e3, e4⟩ := du_dual h
  unfold fullB at hb
  rw [Bool.and_eq_true, Int.toNat_natCast] at hb
  rw [e1, e2]
  unfold hellyB
  rw [e3, Int.toNat_natCast, e4, duZ_len, hb.2]
  rfl

theorem helly_dual {k : Nat} {zs : List Int} (h : dualIn (k : Int) zs = true) (hb : hellyB (k : Int) zs = true) : fullB (dualM (k : Int) zs) (dualZ (k : Int) zs) = true := by
  obtain ⟨e1, e2, e3, -⟩ := du_dual h
  unfold hellyB at hb
  rw [Bool.and_eq_true, Int.toNat_natCast] at hb
  rw [e1, e2]
  unfold fullB
  rw [e3, Int.toNat_natCast, hb.2]
  rfl

theorem clubs_dual {k : Nat} {zs : List Int} (h : dualIn (k : Int) zs = true) : clubsZ (dualM (k : Int) zs) (dualZ (k : Int) zs) = pairsZ (k : Int) zs := by
  obtain ⟨e1, e2, e3, e4⟩ := du_dual h
  have hf : famIn (k : Int) zs = true := by simp only [dualIn, Bool.and_eq_true] at h; exact h.1
  rw [e1, e2]
  unfold clubsZ pairsZ
  rw [e3, hf, Int.toNat_natCast, e4, duZ_len]
  rfl

end Go.Proofs.YtobjmiaanoheeaaDoor
