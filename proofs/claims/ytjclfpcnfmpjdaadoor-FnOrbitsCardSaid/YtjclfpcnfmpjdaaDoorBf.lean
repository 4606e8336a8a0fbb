/- It is proved what l2Own returns; conditions: those of each statement. -/
import Derived.Deep.RegionHeld3
import Derived.RowKit
import Derived.Laws.CopyRow
import Derived.Lib.SlBuf
import Derived.Deep.QuietTactic
import Derived.RangeFuncNested
import Derived.RangeFuncBound
import Derived.RangeFuncCalls
import Derived.RangeFuncLeaves
import Derived.RangeFuncBox
import Derived.RangeFuncWrites
import Derived.StillTailTactics
import Derived.Maps.OwnIn
import Derived.Maps.Ext
import Derived.DeepKeys4
import Derived.MapKept
import Derived.Test.YtjclfpcnfmpjdaaDoorRows
import Derived.WalkKit
import Derived.WalkSpells
import Derived.ProofKit
import Derived.OpenShut
import Derived.ShutString
import Derived.ChangeOld
import Derived.Below
import Derived.BigQuiet
import Derived.Lib.Hide
import Derived.Lib.SmallJoins
import Derived.Outline
import Derived.Laws.MakeOwn
import Derived.Laws.OwnMore
import Derived.IntWalk
import Derived.Maps.AppendAt
import Derived.Lib.AppendZeros
import Derived.Deep.AppendLies
import Derived.OwnWalk
import Derived.Lib.SlicesCompact
import Derived.Lib.OwnBridge
import Derived.OrdersIn
import Derived.TacticsIn
import Derived.Shelf.Sort.Plain
import Derived.Shelf.Slices.In.SortNone
import Derived.Shelf.Slices.CompactI
import Derived.Ground.Names2Prog
import Derived.Shelf.Abstract
import Derived.Shelf.RegionOpen
import Derived.OwnWalkIn
import Derived.TacticsInMore
import Derived.LoopNIn
import Derived.LoopIn
import Derived.StillTail
import Derived.StillTactics
import Derived.Shelf.Spec.TrailingZeros
import Derived.Test.YtjclfpcnfmpjdaaDoorMra
import Derived.Test.YtjclfpcnfmpjdaaDoorMrb
namespace Go.Proofs.YtjclfpcnfmpjdaaDoor
open Go.RowKit Go.Shelf

set_option maxRecDepth 100000 in
theorem called_id_fin : ∀ m : Fin 7, ∀ s : Fin 64, s.val < 2 ^ m.val → called (nI (List.range m.val)) s.val = s.val := by decide +kernel

theorem called_id {m s : Nat} (hm : m ≤ 6) (hs : s < 2 ^ m) : called (nI (List.range m)) s = s :=
  called_id_fin ⟨m, by omega⟩ ⟨s, Nat.lt_of_lt_of_le hs (Nat.pow_le_pow_right (by decide) hm : 2 ^ m ≤ 2 ^ 6)⟩ hs

theorem own_map {m : Nat} (hm : m ≤ 6) {zs : List Int} (h : ∀ z ∈ zs, 0 ≤ z ∧ z.toNat < 2 ^ m) : zs.map (callZ (nI (List.range m))) = zs := by
  conv => rhs; rw [← List.map_id zs]
  apply List.map_congr_left
  intro z hz
  obtain ⟨h1, h2⟩ := h z hz
  unfold callZ
  rw [called_id hm h2]
  simp; omega

theorem own_pred {m : Nat} (hm : m ≤ 6) {zs : List Int} (h : ∀ z ∈ zs, 0 ≤ z ∧ z.toNat < 2 ^ m) (ps : List Int) :
    decide ((zs.map (callZ ps)).mergeSort leZ = zs.mergeSort leZ) = (keyL zs ps == keyL zs (nI (List.range m))) := by
  unfold keyL
  rw [own_map hm h, Bool.eq_iff_iff, decide_eq_true_eq, beq_iff_eq, List.append_left_inj]

def ownF (m : Nat) (zs : List Int) (k : Nat) : List (List Int) := (((lvlL m m).take k).filter fun p => keyL zs (nI p) == keyL zs (nI (List.range m))).map nI
theorem ownF_all (m : Nat) (zs : List Int) : ownF m zs (lvlL m m).length = (ownL m zs).map nI := by unfold ownF ownL; rw [List.take_length, lvlL_perms]
theorem ownF_yes {m k : Nat} {zs : List Int} (hk : k < (lvlL m m).length) (h : (keyL zs (nI (lvlL m m)[k]) == keyL zs (nI (List.range m))) = true) : ownF m zs (k + 1) = ownF m zs k ++ [nI (lvlL m m)[k]] := by
  unfold ownF
  rw [List.take_succ_eq_append_getElem hk, List.filter_append, List.map_append]
  simp [h]

theorem ownF_no {m k : Nat} {zs : List Int} (hk : k < (lvlL m m).length) (h : (keyL zs (nI (lvlL m m)[k]) == keyL zs (nI (List.range m))) = false) : ownF m zs (k + 1) = ownF m zs k := by
  unfold ownF
  rw [List.take_succ_eq_append_getElem hk, List.filter_append, List.map_append]
  have h' : ¬ (keyL zs (nI (lvlL m m)[k]) = keyL zs (nI (List.range m))) := by simpa using h
  simp [h']

theorem ownF_len (m : Nat) (zs : List Int) (hm : m ≤ 6) (k : Nat) : (ownF m zs k).length ≤ 46656 := by
  unfold ownF
  rw [List.length_map]
  refine Nat.le_trans (List.length_filter_le _ _) (Nat.le_trans ?_ (lvlL_small hm (Nat.le_refl m)))
  rw [List.length_take]; omega

theorem field_fam (x0 : Int) (a : Option Addr) (n c : Nat) (w : World) : (Instr.field 25 (.agg #[.int .i64 x0, .slice a n c]) 1).run Tryd.prog w = .ok (.slice a n c) w := by kernel_rfl
set_option maxRecDepth 100000 in
set_option maxHeartbeats 8000000 in
theorem specOwn_any (m : Nat) (hm : m ≤ 6) (a : Option Addr) (c : Nat) (zs : List Int) (w : World) (ha : Ints w w.heap.size a zs) (hf : famIn (m : Int) zs = true) :
    Calls Tryd.prog 66 #[.agg #[.int .i64 (m : Int), .slice a zs.length c]] w fun e w' => ∃ v, e = .returned v ∧ Rws w' w.heap.size v ((ownL m zs).map nI) ∧ Below w.heap.size w w' := by
  obtain ⟨hm1, hm6, hl8, hz4⟩ := famIn_out hf
  have hz : ∀ z ∈ zs, 0 ≤ z ∧ z.toNat < 2 ^ m := fun z hz => by
    have h1 := hz4 z hz
    have h3 : fullI (m : Int) = ((2 ^ m - 1 : Nat) : Int) := full_nat m
    have h4 : 1 ≤ 2 ^ m := Nat.one_le_two_pow
    omega
  have hb1 := below2 w (.cells #[.int .i64 (m : Int), .slice a zs.length c] 25) (.cells #[] 23)
  have q0 := alloc2_0 w (.cells #[.int .i64 (m : Int), .slice a zs.length c] 25) (.cells #[] 23)
  have q1 := alloc2_1 w (.cells #[.int .i64 (m : Int), .slice a zs.length c] 25) (.cells #[] 23)
  have hs1 : ((w.alloc (.cells #[.int .i64 (m : Int), .slice a zs.length c] 25)).alloc (.cells #[] 23)).heap.size = w.heap.size + 1 + 1 := by simp
  obtain ⟨w1, hw1⟩ : ∃ w1, (w.alloc (.cells #[.int .i64 (m : Int), .slice a zs.length c] 25)).alloc (.cells #[] 23) = w1 := ⟨_, rfl⟩
  rw [hw1] at hb1 q0 q1 hs1
  obtain ⟨n, hn⟩ : ∃ n, n = zs.length := ⟨_, rfl⟩
  have HN := Lib.hid hn
  have HA := Lib.hid ha
  have HF := Lib.hid hf
  have HZ := Lib.hid hz
  have HB1 := Lib.hid hb1
  have HS1 := Lib.hid hs1
  have HQ1 : Hid (HasBlk w1 (w.heap.size + 1) #[] 23) := Lib.hid q1
  rw [← hn] at hw1 q0 ⊢
  have HQ0 : Hid (HasBlk w1 w.heap.size #[.int .i64 (m : Int), .slice a n c] 25) := Lib.hid q0
  have x0 := (blk_cell q0 0).trans (cell2_0 _ _)
  have x1 := (blk_cell q0 1).trans (cell2_1 _ _)
  have hn8 : n ≤ 8 := by omega
  clear ha hf hz hz4 hb1 q0 q1 hs1 hn hl8
  go_enter Tryd.func66, Tryd.ntmps66
  go_wp2_with fail
  refine (perms_any m hm w1).mono ?_
  rintro e w2 ⟨pv, rfl, hRp, hb2⟩
  obtain ⟨pa, pc, rfl⟩ := hRp.form
  obtain ⟨N, hN⟩ : ∃ N, N = (lvlL m m).length := ⟨_, rfl⟩
  have hNs : N ≤ 46656 := by rw [hN]; exact lvlL_small hm (Nat.le_refl m)
  rw [List.length_map, ← hN]
  have q02 : HasBlk w2 w.heap.size #[.int .i64 (m : Int), .slice a n c] 25 := (hb2.block _ (by have := HS1.out; omega)).trans HQ0.out
  have y0 := (blk_cell q02 0).trans (cell2_0 _ _)
  have y1 := (blk_cell q02 1).trans (cell2_1 _ _)
  have hS := l2Sorted_any a c zs w2 ((HA.out.below (HB1.out.trans (hb2.mono HB1.out.size))).mono (by have := HB1.out.size; have := hb2.size; omega)) (by have := HN.out; omega)
  rw [← HN.out] at hS
  have HRP := Lib.hid hRp
  have HB2 := Lib.hid hb2
  have HNN := Lib.hid hN
  clear hRp hb2 hN q02 x0 x1 hw1
  go_wp2_with fail
  refine hS.mono ?_
  rintro e w3 ⟨la, lc, rfl, hol, hb3⟩
  obtain ⟨ga, hga⟩ : ∃ ga : Nat, ga = (pa.map Addr.block).getD 0 := ⟨_, rfl⟩
  have hs2 : w.heap.size + 1 + 1 ≤ w2.heap.size := by have := HB2.out.size; have := HS1.out; omega
  have hgaw : ga ≠ w.heap.size + 1 ∧ ga < w3.heap.size := by
    obtain ⟨vals, h1, -⟩ := HRP.out
    have := hb3.size
    cases pa with
    | none => rw [hga]; simp only [Option.map, Option.getD]; omega
    | some x =>
      rw [hga]
      simp only [Option.map, Option.getD]
      obtain ⟨h2, h3⟩ := World.ownsRow.lt h1 x.block rfl
      have := HS1.out
      omega
  have HST : Hid (Rws w3 (w.heap.size + 1) (.slice (some ⟨w.heap.size + 1, 0, none⟩) 0 0) (ownF m zs 0)) := Lib.hid (by
    have q3 : w3.heap[w.heap.size + 1]? = some (.cells #[] 23 (0, 0)) := (hb3.block _ (by omega)).trans ((HB2.out.block _ (by have := HS1.out; omega)).trans HQ1.out)
    have := rws_nil w3 (w.heap.size + 1) q3 (Nat.le_refl _)
    simpa [ownF] using this)
  have HRP3 : Hid (Rws w3 (w.heap.size + 1) (.slice pa N pc) ((lvlL m m).map nI)) := Lib.hid (by
    have := (HRP.out.below hb3).base (B' := w.heap.size + 1) (by have := HS1.out; omega)
    rwa [List.length_map, ← HNN.out] at this)
  have HOL : Hid (OwnN w3 (w.heap.size + 1) la n lc (zs.mergeSort leZ)) := Lib.hid (by
    exact hol.base (B' := w.heap.size + 1) (by omega))
  have HB3 : Hid (Below (w.heap.size + 1) w1 w3) := Lib.hid ((HB2.out.mono (by have := HS1.out; omega)).trans (hb3.mono (by omega)))
  have HGA := Lib.hid hga
  have HGW := Lib.hid hgaw
  have HOK : Hid (∀ k, k < N → Okp m (nI ((lvlL m m)[k]?.getD []))) := Lib.hid (fun k hk => by
    have hk' : k < (lvlL m m).length := by have := HNN.out; omega
    rw [List.getElem?_eq_getElem hk', Option.getD_some]
    exact okp_nI hm (lvlL_in (List.getElem_mem hk')) (lvlL_lt (List.getElem_mem hk')))
  have hsW : w.heap.size + 1 + 1 ≤ w3.heap.size := by have := hb3.size; omega
  clear hol hb3 hga hgaw hS y0 y1
  go_wp2
  go_loopw [3, 6] (fun o i wr => ∃ (k : Nat) (ov : Value), k ≤ N ∧ i = .int .i64 (k : Int) ∧ ov = o ∧ Rws wr (w.heap.size + 1) ov (ownF m zs k) ∧ ov.ownBlock ≠ some ga ∧ Rws wr (w.heap.size + 1) (.slice pa N pc) ((lvlL m m).map nI) ∧ OwnN wr (w.heap.size + 1) la n lc (zs.mergeSort leZ) ∧ ga < wr.heap.size ∧ Below (w.heap.size + 1) w1 wr) (fun _ i _ => N - (intOf i).toNat)
  case atStart => exact ⟨0, _, Nat.zero_le _, rfl, rfl, HST.out, by simp [Value.ownBlock]; exact fun e => HGW.out.1 e.symm, HRP3.out, HOL.out, HGW.out.2, HB3.out⟩
  case round =>
    obtain ⟨k, ov, hk, rfl, rfl, hO, hne, hRa, hLi, hgl, hB⟩ := hrel
    by_cases hlt : k < N
    · have hkl : k < (lvlL m m).length := by have := HNN.out; omega
      obtain ⟨p, hp⟩ : ∃ p, p = (lvlL m m)[k] := ⟨_, rfl⟩
      have hpl : p.length = m := by rw [hp]; exact lvlL_in (List.getElem_mem hkl)
      have hok : Okp m (nI p) := by have := HOK.out k hlt; rwa [List.getElem?_eq_getElem hkl, Option.getD_some, ← hp] at this
      have e2 : ((lvlL m m).map nI)[k]?.getD [] = nI p := by rw [List.getElem?_map, List.getElem?_eq_getElem hkl, ← hp]; rfl
      obtain ⟨g, pa', pc', rfl, hcr, hor⟩ := hRa.at_ (i := k) (by rw [List.length_map]; exact hkl)
      rw [e2, nI_len, hpl] at hcr hor
      have hgg : g = ga := by have := HGA.out; simpa using this.symm
      subst hgg
      have hpm : (nI p).length = m := by rw [nI_len, hpl]
      obtain ⟨pb, hpb⟩ : ∃ pb, pb = (keyL zs (nI p) == keyL zs (nI (List.range m))) := ⟨_, rfl⟩
      have HPD : Hid (decide ((zs.map (callZ (nI p))).mergeSort leZ = zs.mergeSort leZ) = pb) := Lib.hid (by rw [hpb]; exact own_pred hm HZ.out (nI p))
      have HNX : Hid (ownF m zs (k + 1) = if pb then ownF m zs k ++ [nI p] else ownF m zs k) := Lib.hid (by
        rw [hpb, hp]
        cases h : (keyL zs (nI (lvlL m m)[k]) == keyL zs (nI (List.range m)))
        · rw [if_neg (by decide)]; exact ownF_no hkl h
        · rw [if_pos rfl]; exact ownF_yes hkl h)
      obtain ⟨wo, hwo⟩ : ∃ wo, wo = wr := ⟨wr, rfl⟩
      subst hwo
      have hBw : Below w.heap.size w wo := HB1.out.trans (hB.mono (by omega))
      have q0 : HasBlk wo w.heap.size #[.int .i64 (m : Int), .slice a n c] 25 := (hB.block _ (by omega)).trans HQ0.out
      have hsz : w.heap.size + 1 + 1 ≤ wo.heap.size := by have := hB.size; have := HS1.out; omega
      have x0 := (blk_cell q0 0).trans (cell2_0 _ _)
      have x1 := (blk_cell q0 1).trans (cell2_1 _ _)
      have HKE : Hid (∀ w', Below wo.heap.size wo w' → w'.cell? ⟨w.heap.size, 0, none⟩ = some (.int .i64 (m : Int)) ∧ w'.cell? ⟨w.heap.size, 1, none⟩ = some (.slice a n c) ∧ w'.cell? ⟨g, k, none⟩ = some (.slice pa' m pc') ∧ Below wo.heap.size wo w') := Lib.hid (fun w' h => ⟨(h.cell (p := ⟨w.heap.size, 0, none⟩) (show w.heap.size < wo.heap.size by omega)).trans x0, (h.cell (p := ⟨w.heap.size, 1, none⟩) (show w.heap.size < wo.heap.size by omega)).trans x1, (h.cell (p := ⟨g, k, none⟩) hgl).trans hcr, h⟩)
      have hDr : Below wo.heap.size wo wo.drew := (Below.refl _ wo).drew
      have hL1 := l1Named_any m a pa' c pc' zs (nI p) wo.drew ((HA.out.below hBw).mono (show w.heap.size ≤ wo.heap.size by omega)) (own_ints (show OwnI wo (w.heap.size + 1) (.slice pa' (nI p).length pc') (nI p) from by rw [hpm]; unfold OwnI; rw [hpm]; exact hor)) HF.out hok
      rw [hpm, ← HN.out] at hL1
      have HSO9 : Hid (∀ w9 a9 c9, OwnI w9 wo.drew.heap.size (.slice a9 (zs.map (callZ (nI p))).length c9) (zs.map (callZ (nI p))) → Calls Tryd.prog 84 #[.slice a9 n c9] w9 fun e w' => ∃ a' c', e = .returned (.slice a' n c') ∧ OwnN w' w9.heap.size a' n c' ((zs.map (callZ (nI p))).mergeSort leZ) ∧ Below w9.heap.size w9 w') := Lib.hid (fun w9 a9 c9 h => by
        have h9 := l2Sorted_any a9 c9 (zs.map (callZ (nI p))) w9 (own_ints h) (by rw [List.length_map]; have := HN.out; omega)
        rwa [List.length_map, ← HN.out] at h9)
      have HEQ : Hid (∀ w10 B a10 c10, OwnN w10 B a10 n c10 ((zs.map (callZ (nI p))).mergeSort leZ) → OwnN w10 (w.heap.size + 1) la n lc (zs.mergeSort leZ) → Calls Tryd.prog 50 #[.slice a10 n c10, .slice la n lc] w10 fun e w' => e = .returned (.bool pb) ∧ Below w10.heap.size w10 w') := Lib.hid (fun w10 B a10 c10 h h' => by
        have l1 : ((zs.map (callZ (nI p))).mergeSort leZ).length = n := by rw [List.length_mergeSort, List.length_map]; exact HN.out.symm
        have l2 : (zs.mergeSort leZ).length = n := by rw [List.length_mergeSort]; exact HN.out.symm
        have h9 := equal_any a10 la c10 lc ((zs.map (callZ (nI p))).mergeSort leZ) (zs.mergeSort leZ) w10 (own_ints (show OwnI w10 B (.slice a10 ((zs.map (callZ (nI p))).mergeSort leZ).length c10) _ from by unfold OwnI; rw [l1]; exact h)) (own_ints (show OwnI w10 (w.heap.size + 1) (.slice la (zs.mergeSort leZ).length lc) _ from by unfold OwnI; rw [l2]; exact h')) (by omega) (by omega)
        rwa [l1, l2, HPD.out] at h9)
      have HLI := Lib.hid hLi
      have HOV := Lib.hid hO
      have HNE := Lib.hid hne
      have HRA := Lib.hid hRa
      have HOR := Lib.hid hor
      have HBO := Lib.hid hB
      have HHN := HN
      have hkI : (k : Int) < (N : Int) := by omega
      have hk0 : (0 : Int) ≤ (k : Int) := by omega
      have hpm := Lib.hid hpm
      clear hp hok e2 hpb hBw q0 hO hne hRa hor hB hLi hkl
      have hff := field_fam
      go_wp2
      go_region_held3 (fun w' => w'.cell? ⟨w.heap.size, 0, none⟩ = some (.int .i64 (m : Int)) ∧ w'.cell? ⟨w.heap.size, 1, none⟩ = some (.slice a n c) ∧ w'.cell? ⟨g, k, none⟩ = some (.slice pa' m pc') ∧ Below wo.heap.size wo w')
        (first
          | exact HKE.out _ hDr
          | exact HKE.out _ (hDr.trans hb9)
          | exact HKE.out _ ((hDr.trans hb9).trans (hb10.mono hb9.size))
          | exact HKE.out _ (((hDr.trans hb9).trans (hb10.mono hb9.size)).trans (hb11.mono (Nat.le_trans hb9.size hb10.size))))
        (first
          | (go_at_call 74; refine hL1.mono ?_; rintro e w9 ⟨a9, c9, rfl, ho9, hb9⟩; rw [List.length_map, ← HHN.out])
          | (go_at_call 84; refine (HSO9.out w9 a9 c9 ho9).mono ?_; rintro e w10 ⟨a10, c10, rfl, ho10, hb10⟩)
          | (go_at_call 50; refine (HEQ.out w10 _ a10 c10 ho10 ((HLI.out.below (hDr.trans hb9)).below (hb10.mono (Nat.le_refl _)))).mono ?_; rintro e w11 ⟨rfl, hb11⟩))
      rename_i hHeld
      obtain ⟨-, -, z2, hbw⟩ := hHeld
      have HBw := Lib.hid hbw
      have hszw : wo.heap.size ≤ w11.heap.size := hbw.size
      have HOVh : Hid (Rws w11 (w.heap.size + 1) ov (ownF m zs k)) := Lib.hid (HOV.out.below hbw)
      have HRAh : Hid (Rws w11 (w.heap.size + 1) (.slice (some ⟨g, 0, none⟩) N pc) ((lvlL m m).map nI)) := Lib.hid (HRA.out.below hbw)
      have HLIh : Hid (OwnN w11 (w.heap.size + 1) la n lc (zs.mergeSort leZ)) := Lib.hid (HLI.out.below hbw)
      have HORh : Hid (OwnN w11 (w.heap.size + 1) pa' m pc' (nI p)) := Lib.hid (HOR.out.below hbw)
      have HBh : Hid (Below (w.heap.size + 1) w1 w11) := Lib.hid (HBO.out.trans (hbw.mono (by omega)))
      have hglh : g < w11.heap.size := by omega
      clear hbw hL1 HSO9 HEQ HKE hDr x0 x1 hcr hff ho9 hb9 ho10 hb10 hb11
      cases pb
      · go_wp2
        go_roundw
        case rel => exact ⟨k + 1, ov, by omega, by go_num, rfl, by rw [HNX.out]; exact HOVh.out, HNE.out, HRAh.out, HLIh.out, hglh, HBh.out⟩
        case measure => simp [intOf]; omega
      · obtain ⟨a5, c5, w5, hr5, hRf, hnf, hgr, ⟨n', xs', hov⟩, hBf⟩ := app_row (k := m) (l := nI p) HOVh.out (by omega) (by have := ownF_len m zs hm k; omega) pa' pc' hpm.out HORh.out g hglh HNE.out
        obtain ⟨T, hT⟩ : ∃ T, T = (ownF m zs k).length + 1 := ⟨_, rfl⟩
        rw [← hT] at hr5 hRf hnf
        have HFIN : Hid (Rws w5 (w.heap.size + 1) (.slice a5 T c5) (ownF m zs (k + 1))) := Lib.hid (by rw [HNX.out, if_pos rfl]; exact hRf)
        have HNF := Lib.hid hnf
        have HRA5 : Hid (Rws w5 (w.heap.size + 1) (.slice (some ⟨g, 0, none⟩) N pc) ((lvlL m m).map nI)) := Lib.hid ((HRAh.out.alloc _).kept hgr rfl hov (Or.inr (fun e => HNE.out e.symm)))
        have HLI5 : Hid (OwnN w5 (w.heap.size + 1) la n lc (zs.mergeSort leZ)) := Lib.hid (by
          have h := World.ownsRow.alloc HLIh.out (.cells #[.slice pa' m pc'] 23)
          exact h.kept hgr (type_ne h hov (by decide)))
        have HB5 : Hid (Below (w.heap.size + 1) w1 w5) := Lib.hid (HBh.out.trans hBf)
        have hg5 : g < w5.heap.size := by have := hBf.size; omega
        clear hRf hnf hgr hov hBf hT
        go_wp2_with (at_builtin; refine wpList_append_eq _ rfl _ _ 82 82 rfl _ _ rfl rfl hr5 ?_)
        go_roundw
        case rel => exact ⟨k + 1, _, by omega, by go_num, rfl, HFIN.out, HNF.out, HRA5.out, HLI5.out, hg5, HB5.out⟩
        case measure => simp [intOf]; omega
    · obtain rfl : k = N := by omega
      have HF : Hid (Rws wr (w.heap.size + 1) ov ((ownL m zs).map nI)) := Lib.hid (by rw [← ownF_all, ← HNN.out]; exact hO)
      have HBF : Hid (Below w.heap.size w wr) := Lib.hid (HB1.out.trans (hB.mono (by omega)))
      clear hO hne hRa hLi hB
      go_wp2
      go_ret
      exact ⟨_, rfl, HF.out.base (by omega), HBF.out⟩

end Go.Proofs.YtjclfpcnfmpjdaaDoor
