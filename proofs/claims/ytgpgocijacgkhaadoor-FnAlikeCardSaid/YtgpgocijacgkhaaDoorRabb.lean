/- It is proved how the greatest set of clubs that meet, stars and packs compare, and what the dual of a family with one for all is; conditions: those of each statement. -/
import Derived.RowKit
import Derived.Laws.CopyRow
import Derived.Lib.SlBuf
import Derived.Deep.QuietTactic
import Derived.RangeFuncNested
import Derived.RangeFuncBound
import Derived.RangeFuncCalls
import Derived.RangeFuncLeaves
import Derived.RangeFuncBox
import Derived.RangeFuncWrites
import Derived.StillTailTactics
import Derived.Maps.OwnIn
import Derived.Maps.Ext
import Derived.DeepKeys4
import Derived.MapKept
import Derived.Test.YtgpgocijacgkhaaDoorRows
import Derived.WalkKit
import Derived.WalkSpells
import Derived.ProofKit
import Derived.OpenShut
import Derived.ShutString
import Derived.ChangeOld
import Derived.Below
import Derived.Deep.RegionHeld3
import Derived.BigQuiet
import Derived.Lib.Hide
import Derived.Lib.SmallJoins
import Derived.Outline
import Derived.Laws.MakeOwn
import Derived.Laws.OwnMore
import Derived.IntWalk
import Derived.Maps.AppendAt
import Derived.Sort.MapsRangeIn
import Derived.Deep.RegionLaw
import Derived.Deep.AppendLies
import Derived.Deep.RegionWith
import Derived.Lib.AppendZeros
import Derived.OwnWalk
import Derived.Lib.SlicesCompact
import Derived.Lib.OwnBridge
import Derived.OrdersIn
import Derived.TacticsIn
import Derived.Shelf.Sort.Plain
import Derived.Shelf.Slices.In.SortNone
import Derived.Shelf.Slices.CompactI
import Derived.Ground.Names2Prog
import Derived.Lib.SliceRun
import Derived.Laws.BitsAllLaws
import Derived.Shelf.RegionOpen
import Derived.Shelf.Abstract
import Derived.OwnWalkIn
import Derived.TacticsInMore
import Derived.LoopNIn
import Derived.LoopIn
import Derived.StillTail
import Derived.StillTactics
import Derived.Shelf.Spec.TrailingZeros
import Derived.Deep.LoopGhost
import Derived.Test.YtgpgocijacgkhaaDoorRaab
import Derived.Test.YtgpgocijacgkhaaDoorRaan
import Derived.Test.YtgpgocijacgkhaaDoorIb
import Derived.Test.YtgpgocijacgkhaaDoorRaax
import Derived.Test.YtgpgocijacgkhaaDoorRaal
import Derived.Test.YtgpgocijacgkhaaDoorRaai
import Derived.Test.YtgpgocijacgkhaaDoorRaau
import Derived.Test.YtgpgocijacgkhaaDoorRaap
import Derived.Test.YtgpgocijacgkhaaDoorRaas
import Derived.Test.YtgpgocijacgkhaaDoorKs
import Derived.Test.YtgpgocijacgkhaaDoorRaac
import Derived.Test.YtgpgocijacgkhaaDoorPzH
import Derived.Test.YtgpgocijacgkhaaDoorTb
import Derived.Test.YtgpgocijacgkhaaDoorTc
import Derived.Test.YtgpgocijacgkhaaDoorRaae
import Derived.Test.YtgpgocijacgkhaaDoorRaaz
import Derived.Test.YtgpgocijacgkhaaDoorRaaa
import Derived.Test.YtgpgocijacgkhaaDoorDb
import Derived.Test.YtgpgocijacgkhaaDoorRaag
namespace Go.Proofs.YtgpgocijacgkhaaDoor
open Go.RowKit Go.Shelf

theorem count_bit_fin : ∀ s : Fin 64, ∀ v : Fin 6, (mem s.val).count v.val = if s.val.testBit v.val then 1 else 0 := by decide +kernel
theorem countBt_all {zs : List Int} (hz : ∀ z ∈ zs, z.toNat < 64) {v : Nat} (hv : v < 6) : (allMem zs).count v = zs.countP (Bt v) := by
  induction zs with
  | nil => rfl
  | cons z zs ih =>
    have h1 := count_bit_fin ⟨z.toNat, hz z (by simp)⟩ ⟨v, hv⟩
    simp only at h1
    rw [show allMem (z :: zs) = mem z.toNat ++ allMem zs from by simp [allMem], List.count_append, h1, ih (fun y hy => hz y (by simp [hy])), List.countP_cons]
    unfold Bt
    omega

theorem list_range (zs : List Int) : zs = (List.range zs.length).map fun i => zs[i]?.getD 0 := by
  apply List.ext_getElem
  · simp
  · intro i h1 h2; simp [h1]

/-- The places of the clubs with a member. -/
def plN (zs : List Int) (v : Nat) : Nat := dualBits (prsP (pairs zs zs.length)) v

theorem plN_lt (zs : List Int) (v : Nat) : plN zs v < 2 ^ zs.length := dualBits_pow _ _ _
theorem deg_cnt {k : Nat} (hk : k ≤ 6) {zs : List Int} (hS : Sets k zs) (hl : zs.length ≤ 8) {v : Nat} (hv : v < 6) : (allMem zs).count v = cntK 8 (plN zs v) := by
  rw [countBt_all (fun z hz => p64 hk (hS z hz).2) hv]
  unfold cntK
  rw [memW_is hl (plN_lt zs v)]
  unfold memK
  rw [← List.countP_eq_length_filter]
  conv => lhs; rw [list_range zs]
  rw [List.countP_map]
  apply List.countP_congr
  intro i hi
  have hi' := List.mem_range.1 hi
  show Bt v (zs[i]?.getD 0) = true ↔ (plN zs v).testBit i = true
  unfold plN Bt
  rw [du_bit hv]
  exact ⟨fun h => ⟨hi', h⟩, fun h => h.2⟩

theorem tmOf_ge (D : List Int) : ∀ (qs : List Nat) (q : Nat), q ∈ qs → tieB D q = true → cntK 8 q ≤ tmOf D qs := by
  have mono : ∀ (qs : List Nat) (b : Nat), b ≤ qs.foldl (fun b q => if tieB D q then max b (memK 8 q).length else b) b := by
    intro qs
    induction qs with
    | nil => intro b; exact Nat.le_refl _
    | cons q qs ih =>
      intro b
      rw [List.foldl_cons]
      refine Nat.le_trans ?_ (ih _)
      split <;> omega
  have key : ∀ (qs : List Nat) (b q : Nat), q ∈ qs → tieB D q = true → cntK 8 q ≤ qs.foldl (fun b q => if tieB D q then max b (memK 8 q).length else b) b := by
    intro qs
    induction qs with
    | nil => intro b q h; cases h
    | cons x qs ih =>
      intro b q h ht
      rw [List.foldl_cons]
      rcases List.mem_cons.1 h with rfl | h
      · refine Nat.le_trans ?_ (mono qs _)
        rw [if_pos ht]
        unfold cntK
        omega
      · exact ih _ q h ht
  exact fun qs q h ht => key qs 0 q h ht

theorem tmOf_up (D : List Int) (N : Nat) : ∀ (qs : List Nat), (∀ q ∈ qs, tieB D q = true → cntK 8 q ≤ N) → tmOf D qs ≤ N := by
  have key : ∀ (qs : List Nat) (b : Nat), b ≤ N → (∀ q ∈ qs, tieB D q = true → cntK 8 q ≤ N) → qs.foldl (fun b q => if tieB D q then max b (memK 8 q).length else b) b ≤ N := by
    intro qs
    induction qs with
    | nil => intro b hb _; exact hb
    | cons x qs ih =>
      intro b hb h
      rw [List.foldl_cons]
      refine ih _ ?_ (fun q hq => h q (by simp [hq]))
      have hx := h x (by simp)
      unfold cntK at hx
      split
      · rename_i ht
        have := hx ht
        omega
      · exact hb
  exact fun qs h => key qs 0 (by omega) h

theorem tmOf_is (D : List Int) (qs : List Nat) : tmOf D qs = 0 ∨ ∃ q ∈ qs, tieB D q = true ∧ cntK 8 q = tmOf D qs := by
  by_cases h0 : tmOf D qs = 0
  · exact .inl h0
  · right
    apply Classical.byContradiction
    intro hn
    have : tmOf D qs ≤ tmOf D qs - 1 := tmOf_up D _ qs (fun q hq ht => by
      have h1 := tmOf_ge D qs q hq ht
      have h2 : cntK 8 q ≠ tmOf D qs := fun e => hn ⟨q, hq, ht, e⟩
      omega)
    omega

theorem star_is {k : Nat} {zs : List Int} (hf : famIn (k : Int) zs = true) {N : Nat} (h : ∀ v, v < k → (allMem zs).count v ≤ N) : starZ (k : Int) zs ≤ (N : Int) := by
  unfold starZ
  refine mostI_le (by omega) (fun y hy => ?_) _
  unfold famDeg at hy
  rw [hf] at hy
  obtain ⟨v, hv, rfl⟩ := List.mem_map.1 hy
  have := h v (List.mem_range.1 hv)
  omega

theorem star_nn (m : Int) (zs : List Int) : 0 ≤ starZ m zs := mostI_nn _
theorem pl_tie {k : Nat} (hk : k ≤ 6) {zs : List Int} (hS : Sets k zs) (hl : zs.length ≤ 8) {v : Nat} (hv : v < k) (h0 : plN zs v ≠ 0) : tieB (duZ k zs) (plN zs v) = true := by
  rw [du_tie hk hS hl (plN_lt zs v)]
  refine ⟨h0, fun i j hi hj => (met_iff zs i j).2 ⟨v, ?_, ?_⟩⟩
  · exact ((du_bit (by omega) i).1 hi).2
  · exact ((du_bit (by omega) j).1 hj).2

/-- The greatest set of clubs that meet is at least a star. -/
theorem tm_star {m : Int} {zs : List Int} (hf : famIn m zs = true) : starZ m zs ≤ tmZ m zs := by
  obtain ⟨k, rfl, hk1, hk6, hS, hl⟩ := fam_nat2 hf
  unfold tmZ
  rw [hf, if_pos rfl, Int.toNat_natCast]
  refine star_is hf (fun v hv => ?_)
  rw [deg_cnt hk6 hS hl (by omega)]
  by_cases h0 : plN zs v = 0
  · rw [h0, show cntK 8 0 = 0 by decide]; omega
  · exact tmOf_ge _ _ _ (List.mem_range.2 (plN_lt zs v)) (pl_tie hk6 hS hl hv h0)

theorem pack_far (zs : List Int) : ∀ (ps : List Nat) (met : Nat), packB zs ps met = true → ∀ p ∈ ps, (zs[p]?.getD 0).toNat &&& met = 0
  | [], _, _, p, hp => by cases hp
  | x :: ps, met, h, p, hp => by
    rw [packB, Bool.and_eq_true, decide_eq_true_eq] at h
    rcases List.mem_cons.1 hp with rfl | hp
    · exact h.1
    · have h2 := pack_far zs ps _ h.2 p hp
      apply Nat.eq_of_testBit_eq
      intro i
      have h3 := congrArg (fun n => n.testBit i) h2
      simp only [Nat.testBit_and, Nat.testBit_or, Nat.zero_testBit] at h3 ⊢
      cases h4 : (zs[p]?.getD 0).toNat.testBit i <;> cases h5 : met.testBit i <;> simp_all

theorem pack_apart (zs : List Int) : ∀ (ps : List Nat) (met : Nat), packB zs ps met = true → ps.Pairwise fun p q => metN zs p q = false
  | [], _, _ => List.Pairwise.nil
  | x :: ps, met, h => by
    rw [packB, Bool.and_eq_true, decide_eq_true_eq] at h
    refine List.Pairwise.cons (fun p hp => ?_) (pack_apart zs ps _ h.2)
    have h2 := pack_far zs ps _ h.2 p hp
    unfold metN
    rw [decide_eq_false_iff_not, ne_eq, Decidable.not_not]
    apply Nat.eq_of_testBit_eq
    intro i
    have h3 := congrArg (fun n => n.testBit i) h2
    simp only [Nat.testBit_and, Nat.testBit_or, Nat.zero_testBit] at h3 ⊢
    cases h4 : (zs[p]?.getD 0).toNat.testBit i <;> cases h5 : (zs[x]?.getD 0).toNat.testBit i <;> simp_all

theorem one_len {l : List Nat} (hn : l.Nodup) (h : ∀ a ∈ l, ∀ b ∈ l, a = b) : l.length ≤ 1 := by
  match l, hn, h with
  | [], _, _ => simp
  | [_], _, _ => simp
  | a :: b :: l, hn, h =>
    have := h a (by simp) b (by simp)
    subst this
    simp at hn

theorem memK_nodup (k s : Nat) : (memK k s).Nodup := List.Pairwise.filter _ List.nodup_range
theorem mem_K {k s v : Nat} : v ∈ memK k s ↔ v < k ∧ s.testBit v = true := by unfold memK; rw [List.mem_filter, List.mem_range]
theorem pairs_sym {l : List Nat} {R : Nat → Nat → Prop} (hs : ∀ a b, R a b → R b a) (h : l.Pairwise R) : ∀ a ∈ l, ∀ b ∈ l, a ≠ b → R a b := by
  induction h with
  | nil => intro a ha; cases ha
  | cons hx _ ih =>
    intro a ha b hb hne
    rcases List.mem_cons.1 ha with ea | ha'
    · rcases List.mem_cons.1 hb with eb | hb'
      · exact (hne (ea.trans eb.symm)).elim
      · rw [ea]; exact hx b hb'
    · rcases List.mem_cons.1 hb with eb | hb'
      · rw [eb]; exact hs _ _ (hx a ha')
      · exact ih a ha' b hb' hne

/-- A set of clubs that meet and a pack have at most one club in common. -/
theorem tm_pack {m : Int} {zs : List Int} (hf : famIn m zs = true) : tmZ m zs + packZ m zs ≤ (zs.length : Int) + 1 := by
  obtain ⟨k, rfl, hk1, hk6, hS, hl⟩ := fam_nat2 hf
  unfold tmZ packZ
  rw [hf, if_pos rfl, if_pos rfl, Int.toNat_natCast]
  obtain ⟨h1, q, hq, hqb, hql⟩ := packM_most zs 0
  have hqn : cntK zs.length q = packM zs 0 := hql
  rcases tmOf_is (duZ k zs) (List.range (2 ^ zs.length)) with h0 | ⟨p, hp, hti, hpl⟩
  · rw [h0]
    have : cntK zs.length q ≤ zs.length := memK_len _ _
    omega
  · have hp' := List.mem_range.1 hp
    have hpn : cntK zs.length p = tmOf (duZ k zs) (List.range (2 ^ zs.length)) := by rw [← hpl]; unfold cntK; rw [memW_is hl hp']
    have hie := cnt_ie zs.length p q
    have hor : cntK zs.length (p ||| q) ≤ zs.length := memK_len _ _
    obtain ⟨_, htie⟩ := (du_tie hk6 hS hl hp').1 hti
    have hap := pairs_sym (R := fun a b => metN zs a b = false) (fun a b h => by rw [met_comm]; exact h) (pack_apart zs _ _ hqb)
    have hand : cntK zs.length (p &&& q) ≤ 1 := one_len (memK_nodup _ _) (fun a ha b hb => by
      obtain ⟨ha1, ha2⟩ := mem_K.1 ha
      obtain ⟨hb1, hb2⟩ := mem_K.1 hb
      rw [Nat.testBit_and, Bool.and_eq_true] at ha2 hb2
      apply Classical.byContradiction
      intro hne
      have h2 := hap a (mem_K.2 ⟨ha1, ha2.2⟩) b (mem_K.2 ⟨hb1, hb2.2⟩) hne
      rw [htie a b ha2.1 hb2.1] at h2
      cases h2)
    omega

theorem sum_up {N : Int} : ∀ (ys : List Int), (∀ y ∈ ys, y ≤ N) → ys.sum ≤ N * ys.length
  | [], _ => by simp
  | y :: ys, h => by
    have h1 := h y (by simp)
    have h2 := sum_up ys (fun x hx => h x (by simp [hx]))
    rw [List.sum_cons, List.length_cons]
    have : N * ((ys.length + 1 : Nat) : Int) = N * ys.length + N := by
      rw [Int.natCast_add, Int.mul_add]; simp
    omega

theorem star_sum {m : Int} {zs : List Int} (hf : famIn m zs = true) : (sizesZ m zs).sum ≤ starZ m zs * m := by
  obtain ⟨e1, e2, -, -⟩ := family_facts hf
  rw [← e1]
  have := sum_up (N := starZ m zs) (famDeg m zs) (fun y hy => mostI_all y hy)
  rw [e2] at this
  exact this

end Go.Proofs.YtgpgocijacgkhaaDoor

/- It is proved that the families of chapter 8, drawn from bytes, are the call's own; conditions: those of each statement. -/
namespace Go.Proofs.YtgpgocijacgkhaaDoor
open Go.RowKit

set_option maxRecDepth 100000 in
set_option maxHeartbeats 2000000 in
theorem drawMeetMost_any (a : Option Addr) (n cap : Nat) (w : World) (hb : Bys w w.heap.size a n) (hn : n ≤ 1048576) (hc : n ≤ cap) (hc2 : cap ≤ 9223372036854775807) :
    Calls Tryd.prog 32 #[.slice a n cap] w (DrawnOne w) := by
  have b1 := below1 w (.cells #[.int .i64 0, .slice none 0 0] 25)
  have HB := Lib.hid ((hb.below b1).fewer (B' := (w.alloc (.cells #[.int .i64 0, .slice none 0 0] 25)).heap.size) (by simp) (Nat.le_refl n))
  have HX : Hid (HasBlk (w.alloc (.cells #[.int .i64 0, .slice none 0 0] 25)) w.heap.size #[.int .i64 0, .slice none 0 0] 25) := Lib.hid (alloc_new w _)
  have HBL := Lib.hid b1
  clear hb b1
  go_enter Tryd.func32, Tryd.ntmps32
  go_wp2_with fail
  refine (oneD_any a n cap _ HB.out hn hc hc2).mono ?_
  rintro e w2 ⟨m, a2, zs, c2, rfl, hl, ho, D2⟩
  have q0 : HasBlk w2 w.heap.size #[.int .i64 0, .slice none 0 0] 25 := (D2.block _ (by simp)).trans HX.out
  have d0 := (blk_cell q0 0).trans (cell2_0 _ _)
  have d1 := (blk_cell q0 1).trans (cell2_1 _ _)
  have f0 := blk_frozen q0 0
  have f1 := blk_frozen q0 1
  have HO : Hid (OwnI w2 (w.heap.size + 1) (.slice a2 zs.length c2) zs) := Lib.hid (own_mono ho (by simp))
  have HBW := Lib.hid (HBL.out.trans (D2.mono (by simp)))
  clear ho D2 q0
  go_wp2
  refine bodyPost_ret (v := .agg #[.int .i64 m, .slice a2 zs.length c2]) (by simp [results, Tryd.results32, go_sem, d0, d1]) rfl ?_
  refine ⟨m, a2, zs, c2, rfl, hl, ?_, ?_⟩
  · exact own_mono (ownsRow_setCell_below (ownsRow_setCell_below HO.out (a := ⟨w.heap.size, 0, none⟩) (show w.heap.size < w.heap.size + 1 by omega) _) (a := ⟨w.heap.size, 1, none⟩) (show w.heap.size < w.heap.size + 1 by omega) _) (by omega)
  · exact (HBW.out.setCell (p := ⟨w.heap.size, 0, none⟩) (Nat.le_refl _) _).setCell (p := ⟨w.heap.size, 1, none⟩) (Nat.le_refl _) _

set_option maxRecDepth 100000 in
set_option maxHeartbeats 2000000 in
theorem drawMeetStars_any (a : Option Addr) (n cap : Nat) (w : World) (hb : Bys w w.heap.size a n) (hn : n ≤ 1048576) (hc : n ≤ cap) (hc2 : cap ≤ 9223372036854775807) :
    Calls Tryd.prog 37 #[.slice a n cap] w (DrawnOne w) := by
  have b1 := below1 w (.cells #[.int .i64 0, .slice none 0 0] 25)
  have HB := Lib.hid ((hb.below b1).fewer (B' := (w.alloc (.cells #[.int .i64 0, .slice none 0 0] 25)).heap.size) (by simp) (Nat.le_refl n))
  have HX : Hid (HasBlk (w.alloc (.cells #[.int .i64 0, .slice none 0 0] 25)) w.heap.size #[.int .i64 0, .slice none 0 0] 25) := Lib.hid (alloc_new w _)
  have HBL := Lib.hid b1
  clear hb b1
  go_enter Tryd.func37, Tryd.ntmps37
  go_wp2_with fail
  refine (oneD_any a n cap _ HB.out hn hc hc2).mono ?_
  rintro e w2 ⟨m, a2, zs, c2, rfl, hl, ho, D2⟩
  have q0 : HasBlk w2 w.heap.size #[.int .i64 0, .slice none 0 0] 25 := (D2.block _ (by simp)).trans HX.out
  have d0 := (blk_cell q0 0).trans (cell2_0 _ _)
  have d1 := (blk_cell q0 1).trans (cell2_1 _ _)
  have f0 := blk_frozen q0 0
  have f1 := blk_frozen q0 1
  have HO : Hid (OwnI w2 (w.heap.size + 1) (.slice a2 zs.length c2) zs) := Lib.hid (own_mono ho (by simp))
  have HBW := Lib.hid (HBL.out.trans (D2.mono (by simp)))
  clear ho D2 q0
  go_wp2
  refine bodyPost_ret (v := .agg #[.int .i64 m, .slice a2 zs.length c2]) (by simp [results, Tryd.results37, go_sem, d0, d1]) rfl ?_
  refine ⟨m, a2, zs, c2, rfl, hl, ?_, ?_⟩
  · exact own_mono (ownsRow_setCell_below (ownsRow_setCell_below HO.out (a := ⟨w.heap.size, 0, none⟩) (show w.heap.size < w.heap.size + 1 by omega) _) (a := ⟨w.heap.size, 1, none⟩) (show w.heap.size < w.heap.size + 1 by omega) _) (by omega)
  · exact (HBW.out.setCell (p := ⟨w.heap.size, 0, none⟩) (Nat.le_refl _) _).setCell (p := ⟨w.heap.size, 1, none⟩) (Nat.le_refl _) _

end Go.Proofs.YtgpgocijacgkhaaDoor
