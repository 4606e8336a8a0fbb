/- It is proved what l2Own returns; conditions: those of each statement. -/
import Derived.Deep.RegionHeld3
import Derived.RowKit
import Derived.Laws.CopyRow
import Derived.Lib.SlBuf
import Derived.Deep.QuietTactic
import Derived.RangeFuncNested
import Derived.RangeFuncBound
import Derived.RangeFuncCalls
import Derived.RangeFuncLeaves
import Derived.RangeFuncBox
import Derived.RangeFuncWrites
import Derived.StillTailTactics
import Derived.Maps.OwnIn
import Derived.Maps.Ext
import Derived.DeepKeys4
import Derived.MapKept
import Derived.Test.YtcnicdaagknmpaaDoorRows
import Derived.WalkKit
import Derived.WalkSpells
import Derived.ProofKit
import Derived.OpenShut
import Derived.ShutString
import Derived.ChangeOld
import Derived.Below
import Derived.BigQuiet
import Derived.Lib.Hide
import Derived.Lib.SmallJoins
import Derived.Outline
import Derived.Laws.MakeOwn
import Derived.Laws.OwnMore
import Derived.IntWalk
import Derived.Maps.AppendAt
import Derived.Lib.AppendZeros
import Derived.Deep.AppendLies
import Derived.OwnWalk
import Derived.Lib.SlicesCompact
import Derived.Lib.OwnBridge
import Derived.OrdersIn
import Derived.TacticsIn
import Derived.Shelf.Sort.Plain
import Derived.Shelf.Slices.In.SortNone
import Derived.Shelf.Slices.CompactI
import Derived.Ground.Names2Prog
import Derived.Shelf.Abstract
import Derived.Shelf.RegionOpen
import Derived.OwnWalkIn
import Derived.TacticsInMore
import Derived.LoopNIn
import Derived.LoopIn
import Derived.StillTail
import Derived.StillTactics
import Derived.Shelf.Spec.TrailingZeros
import Derived.Test.YtcnicdaagknmpaaDoorGaab
import Derived.Test.YtcnicdaagknmpaaDoorGaae
import Derived.Test.YtcnicdaagknmpaaDoorGaah
import Derived.Test.YtcnicdaagknmpaaDoorGaaa
import Derived.Test.YtcnicdaagknmpaaDoorGaai
import Derived.Test.YtcnicdaagknmpaaDoorGaaf
import Derived.Test.YtcnicdaagknmpaaDoorGaad
import Derived.Test.YtcnicdaagknmpaaDoorGaac
import Derived.Test.YtcnicdaagknmpaaDoorGaag
namespace Go.Proofs.YtcnicdaagknmpaaDoor
open Go.RowKit Go.Shelf

theorem field_fam (x0 : Int) (a : Option Addr) (n c : Nat) (w : World) : (Instr.field 25 (.agg #[.int .i64 x0, .slice a n c]) 1).run Tryd.prog w = .ok (.slice a n c) w := by kernel_rfl
end Go.Proofs.YtcnicdaagknmpaaDoor

/- It is proved what l2Best returns; conditions: those of each statement. -/
namespace Go.Proofs.YtcnicdaagknmpaaDoor
open Go.RowKit Go.Shelf

/-- The list that the names p make, in order. -/
def lstP (zs : List Int) (p : List Nat) : List Int := (zs.map (callZ (nI p))).mergeSort leZ

/-- The least list of the names up to L[i], and the first names that make it. -/
def bestG (zs : List Int) (L : List (List Nat)) : Nat → List Int × List Nat
  | 0 => (lstP zs (L[0]?.getD []), L[0]?.getD [])
  | i + 1 => if lexB (lstP zs (L[i + 1]?.getD [])) (bestG zs L i).1 then (lstP zs (L[i + 1]?.getD []), L[i + 1]?.getD []) else bestG zs L i

theorem lstP_len (zs : List Int) (p : List Nat) : (lstP zs p).length = zs.length := by unfold lstP; rw [List.length_mergeSort, List.length_map]
theorem bestG_len (zs : List Int) (L : List (List Nat)) : ∀ i, (bestG zs L i).1.length = zs.length
  | 0 => lstP_len _ _
  | i + 1 => by
    rw [bestG]; split
    · exact lstP_len _ _
    · exact bestG_len zs L i

theorem bestG_in (zs : List Int) (L : List (List Nat)) : ∀ i, i < L.length → (bestG zs L i).2 ∈ L
  | 0, h => by rw [bestG, List.getElem?_eq_getElem h]; exact List.getElem_mem h
  | i + 1, h => by
    rw [bestG]; split
    · rw [List.getElem?_eq_getElem h]; exact List.getElem_mem h
    · exact bestG_in zs L i (by omega)

set_option maxRecDepth 100000 in
theorem lvlL_pos_fin : ∀ m : Fin 7, 0 < (lvlL m.val m.val).length := by decide +kernel

theorem lvlL_pos {m : Nat} (hm : m ≤ 6) : 0 < (lvlL m m).length := lvlL_pos_fin ⟨m, by omega⟩
def RetBest (w : World) (n m : Nat) (b : List Int × List Nat) (e : Ending) (w' : World) : Prop :=
  ∃ ba bc na nc, e = .returned (.tuple #[.slice ba n bc, .slice na m nc]) ∧ OwnN w' w.heap.size ba n bc b.1 ∧ OwnN w' w.heap.size na m nc (nI b.2) ∧ Below w.heap.size w w'

set_option maxRecDepth 100000 in
set_option maxHeartbeats 8000000 in
theorem specBest_any (m : Nat) (hm : m ≤ 6) (a : Option Addr) (c : Nat) (zs : List Int) (w : World) (ha : Ints w w.heap.size a zs) (hf : famIn (m : Int) zs = true) :
    Calls Tryd.prog 21 #[.agg #[.int .i64 (m : Int), .slice a zs.length c]] w (RetBest w zs.length m (bestG zs (lvlL m m) ((lvlL m m).length - 1))) := by
  obtain ⟨hm1, hm6, hl8, -⟩ := famIn_out hf
  have hb1 := below1 w (.cells #[.int .i64 (m : Int), .slice a zs.length c] 25)
  have q0 := alloc_new w (.cells #[.int .i64 (m : Int), .slice a zs.length c] 25)
  have hs1 : (w.alloc (.cells #[.int .i64 (m : Int), .slice a zs.length c] 25)).heap.size = w.heap.size + 1 := by simp
  obtain ⟨w1, hw1⟩ : ∃ w1, w.alloc (.cells #[.int .i64 (m : Int), .slice a zs.length c] 25) = w1 := ⟨_, rfl⟩
  rw [hw1] at hb1 q0 hs1
  obtain ⟨n, hn⟩ : ∃ n, n = zs.length := ⟨_, rfl⟩
  have HN := Lib.hid hn
  have HA := Lib.hid ha
  have HF := Lib.hid hf
  have HB1 := Lib.hid hb1
  have HS1 := Lib.hid hs1
  rw [← hn] at hw1 q0 ⊢
  have HQ0 : Hid (HasBlk w1 w.heap.size #[.int .i64 (m : Int), .slice a n c] 25) := Lib.hid q0
  have x0 := (blk_cell q0 0).trans (cell2_0 _ _)
  have hn8 : n ≤ 8 := by omega
  clear ha hf hb1 q0 hs1 hn hl8
  go_enter Tryd.func21, Tryd.ntmps21
  go_wp2_with fail
  refine (perms_any m hm w1).mono ?_
  rintro e w2 ⟨pv, rfl, hRp, hb2⟩
  obtain ⟨pa, pc, rfl⟩ := hRp.form
  obtain ⟨N, hN⟩ : ∃ N, N = (lvlL m m).length := ⟨_, rfl⟩
  have hNs : N ≤ 46656 := by rw [hN]; exact lvlL_small hm (Nat.le_refl m)
  have hN0 : 0 < N := by rw [hN]; exact lvlL_pos hm
  have HNN := Lib.hid hN
  have HOK : Hid (∀ k, k < N → Okp m (nI ((lvlL m m)[k]?.getD [])) ∧ ((lvlL m m)[k]?.getD []).length = m) := Lib.hid (fun k hk => by
    have hk' : k < (lvlL m m).length := by have := HNN.out; omega
    rw [List.getElem?_eq_getElem hk', Option.getD_some]
    exact ⟨okp_nI hm (lvlL_in (List.getElem_mem hk')) (lvlL_lt (List.getElem_mem hk')), lvlL_in (List.getElem_mem hk')⟩)
  have hRp2 : Rws w2 w.heap.size (.slice pa N pc) ((lvlL m m).map nI) := by
    have := hRp.base (B' := w.heap.size) (by have := HS1.out; omega)
    rwa [List.length_map, ← hN] at this
  have HBW2 : Hid (Below w.heap.size w w2) := Lib.hid (HB1.out.trans (hb2.mono (by have := HS1.out; omega)))
  have q02 : HasBlk w2 w.heap.size #[.int .i64 (m : Int), .slice a n c] 25 := (hb2.block _ (by have := HS1.out; omega)).trans HQ0.out
  have hsz2 : w.heap.size + 1 ≤ w2.heap.size := by have := hb2.size; have := HS1.out; omega
  rw [List.length_map, ← hN]
  -- what a list's region leaves, at any world
  have HRUN : Hid (∀ (wo : World) (k : Nat), k < N → HasBlk wo w.heap.size #[.int .i64 (m : Int), .slice a n c] 25 → Below w.heap.size w wo → w.heap.size + 1 ≤ wo.heap.size → Rws wo w.heap.size (.slice pa N pc) ((lvlL m m).map nI) → ∃ g pa' pc', pa = some ⟨g, 0, none⟩ ∧
      (∀ w', Below wo.heap.size wo w' → w'.cell? ⟨w.heap.size, 0, none⟩ = some (.int .i64 (m : Int)) ∧ w'.cell? ⟨w.heap.size, 1, none⟩ = some (.slice a n c) ∧ w'.cell? ⟨g, k, none⟩ = some (.slice pa' m pc') ∧ Below wo.heap.size wo w') ∧
      OwnN wo w.heap.size pa' m pc' (nI ((lvlL m m)[k]?.getD [])) ∧
      Calls Tryd.prog 29 #[.agg #[.int .i64 (m : Int), .slice a n c], .slice pa' m pc'] wo.drew (fun e w' => ∃ a9 c9, e = .returned (.agg #[.int .i64 (m : Int), .slice a9 n c9]) ∧ (Calls Tryd.prog 39 #[.slice a9 n c9] w' fun e w'' => ∃ a' c', e = .returned (.slice a' n c') ∧ OwnN w'' w'.heap.size a' n c' (lstP zs ((lvlL m m)[k]?.getD [])) ∧ Below w'.heap.size w' w'') ∧ Below wo.drew.heap.size wo.drew w')) := Lib.hid (by
    intro wo k hk hq hBw hsz hRa
    obtain ⟨hok, hpl⟩ := HOK.out k hk
    obtain ⟨p, hp⟩ : ∃ p, p = (lvlL m m)[k]?.getD [] := ⟨_, rfl⟩
    rw [← hp] at hok hpl ⊢
    have hkl : k < (lvlL m m).length := by have := HNN.out; omega
    have e2 : ((lvlL m m).map nI)[k]?.getD [] = nI p := by rw [List.getElem?_map, hp, List.getElem?_eq_getElem hkl]; rfl
    obtain ⟨g, pa', pc', rfl, hcr, hor⟩ := hRa.at_ (i := k) (by rw [List.length_map]; exact hkl)
    rw [e2, nI_len, hpl] at hcr hor
    have hpm : (nI p).length = m := by rw [nI_len, hpl]
    have hgl : g < wo.heap.size := lt_of_cell hcr
    have x0 := (blk_cell hq 0).trans (cell2_0 _ _)
    have x1 := (blk_cell hq 1).trans (cell2_1 _ _)
    refine ⟨g, pa', pc', rfl, fun w' h => ⟨(h.cell (p := ⟨w.heap.size, 0, none⟩) (show w.heap.size < wo.heap.size by omega)).trans x0, (h.cell (p := ⟨w.heap.size, 1, none⟩) (show w.heap.size < wo.heap.size by omega)).trans x1, (h.cell (p := ⟨g, k, none⟩) hgl).trans hcr, h⟩, hor, ?_⟩
    have hL1 := l1Named_any m a pa' c pc' zs (nI p) wo.drew ((HA.out.below hBw).mono (show w.heap.size ≤ wo.heap.size by omega)) (own_ints (show OwnI wo w.heap.size (.slice pa' (nI p).length pc') (nI p) from by rw [hpm]; unfold OwnI; rw [hpm]; exact hor)) HF.out hok
    rw [hpm, ← HN.out] at hL1
    refine hL1.mono ?_
    rintro e w9 ⟨a9, c9, rfl, ho9, hb9⟩
    refine ⟨a9, c9, by rw [List.length_map, ← HN.out], ?_, hb9⟩
    have h9 := l2Sorted_any a9 c9 (zs.map (callZ (nI p))) w9 (own_ints ho9) (by rw [List.length_map]; have := HN.out; omega)
    rwa [List.length_map, ← HN.out] at h9)
  obtain ⟨g, pa', pc', rfl, hKE, hor, hL1⟩ := HRUN.out w2 0 hN0 q02 HBW2.out hsz2 hRp2
  have HKE := Lib.hid hKE
  have HOR := Lib.hid hor
  have HRP := Lib.hid hRp2
  have HQ2 := Lib.hid q02
  have hNI : (0 : Int) < (N : Int) := by omega
  have hDr : Below w2.heap.size w2 w2.drew := (Below.refl _ w2).drew
  have hff := field_fam
  clear hRp hRp2 hb2 hN q02 x0 hw1 hKE hor
  go_wp2_with fail
  go_region_held3 (fun w' => w'.cell? ⟨w.heap.size, 0, none⟩ = some (.int .i64 (m : Int)) ∧ w'.cell? ⟨w.heap.size, 1, none⟩ = some (.slice a n c) ∧ w'.cell? ⟨g, 0, none⟩ = some (.slice pa' m pc') ∧ Below w2.heap.size w2 w')
    (first
      | exact HKE.out _ hDr
      | exact HKE.out _ (hDr.trans hb9)
      | exact HKE.out _ ((hDr.trans hb9).trans (hb10.mono hb9.size)))
    (first
      | (go_at_call 29; refine hL1.mono ?_; rintro e w9 ⟨a9, c9, rfl, hS9, hb9⟩)
      | (go_at_call 39; refine hS9.mono ?_; rintro e w10 ⟨a10, c10, rfl, ho10, hb10⟩))
  rename_i hHeld
  obtain ⟨-, -, z2, hbw⟩ := hHeld
  have HBS : Hid (OwnN w10 w.heap.size a10 n c10 (bestG zs (lvlL m m) (1 - 1)).1) := Lib.hid (ho10.base (B' := w.heap.size) (by have := hb9.size; simp at this; omega))
  have HNS : Hid (OwnN w10 w.heap.size pa' m pc' (nI (bestG zs (lvlL m m) (1 - 1)).2)) := Lib.hid (HOR.out.below hbw)
  have HRS : Hid (Rws w10 w.heap.size (.slice (some ⟨g, 0, none⟩) N pc) ((lvlL m m).map nI)) := Lib.hid (HRP.out.below hbw)
  have HQS : Hid (HasBlk w10 w.heap.size #[.int .i64 (m : Int), .slice a n c] 25) := Lib.hid ((hbw.block _ (by omega)).trans HQ2.out)
  have HBS2 : Hid (Below w.heap.size w w10) := Lib.hid (HBW2.out.trans (hbw.mono (by omega)))
  have hsz10 : w.heap.size + 1 ≤ w10.heap.size := by have := hbw.size; omega
  clear hbw hb9 hS9 ho10 hb10 hL1 hDr hff
  go_wp2
  go_loopw [5, 6, 7] (fun b q i wr => ∃ (j : Nat) (ba : Option Addr) (bc : Nat) (na : Option Addr) (nc : Nat), 1 ≤ j ∧ j ≤ N ∧ i = .int .i64 (j : Int) ∧ b = .slice ba n bc ∧ q = .slice na m nc ∧ OwnN wr w.heap.size ba n bc (bestG zs (lvlL m m) (j - 1)).1 ∧ OwnN wr w.heap.size na m nc (nI (bestG zs (lvlL m m) (j - 1)).2) ∧ Rws wr w.heap.size (.slice (some ⟨g, 0, none⟩) N pc) ((lvlL m m).map nI) ∧ HasBlk wr w.heap.size #[.int .i64 (m : Int), .slice a n c] 25 ∧ Below w.heap.size w wr ∧ w.heap.size + 1 ≤ wr.heap.size) (fun _ _ i _ => N - (intOf i).toNat)
  case atStart => exact ⟨1, _, _, _, _, Nat.le_refl _, hN0, rfl, rfl, rfl, HBS.out, HNS.out, HRS.out, HQS.out, HBS2.out, hsz10⟩
  case round =>
    obtain ⟨j, ba, bc, na, nc, hj1, hj, rfl, rfl, rfl, hB, hNm, hRr, hQ, hBl, hsz⟩ := hrel
    obtain ⟨wo, hwo⟩ : ∃ wo, wo = wr := ⟨wr, rfl⟩
    subst hwo
    by_cases hlt : j < N
    · obtain ⟨g', pa2, pc2, hg', hKE, hor, hL1⟩ := HRUN.out wo j hlt hQ hBl hsz hRr
      obtain rfl : g' = g := by injection hg' with e; injection e with e; exact e.symm
      obtain ⟨p, hp⟩ : ∃ p, p = (lvlL m m)[j]?.getD [] := ⟨_, rfl⟩
      rw [← hp] at hor hL1
      obtain ⟨b, hb⟩ : ∃ b, b = bestG zs (lvlL m m) (j - 1) := ⟨_, rfl⟩
      have hbn : b.1.length = n := by rw [hb, bestG_len, HN.out]
      rw [← hb] at hB hNm
      obtain ⟨pb, hpb⟩ : ∃ pb, pb = lexB (lstP zs p) b.1 := ⟨_, rfl⟩
      have HNX : Hid (bestG zs (lvlL m m) (j + 1 - 1) = if pb then (lstP zs p, p) else b) := Lib.hid (by
        rw [show j + 1 - 1 = (j - 1) + 1 from by omega, bestG, show j - 1 + 1 = j from by omega, ← hp, ← hb, ← hpb])
      have HBF : Hid (∀ w10 B a10 c10, OwnN w10 B a10 n c10 (lstP zs p) → OwnN w10 w.heap.size ba n bc b.1 → Calls Tryd.prog 40 #[.slice a10 n c10, .slice ba n bc] w10 fun e w' => e = .returned (.bool pb) ∧ Below w10.heap.size w10 w') := Lib.hid (fun w10 B a10 c10 h h' => by
        have l1 : (lstP zs p).length = n := by rw [lstP_len]; exact HN.out.symm
        have h9 := before_any a10 ba c10 bc (lstP zs p) b.1 w10 (own_ints (show OwnI w10 B (.slice a10 (lstP zs p).length c10) _ from by unfold OwnI; rw [l1]; exact h)) (own_ints (show OwnI w10 w.heap.size (.slice ba b.1.length bc) _ from by unfold OwnI; rw [hbn]; exact h')) (by omega) (by omega)
        rwa [l1, hbn, ← hpb] at h9)
      have HKE := Lib.hid hKE
      have HOR := Lib.hid hor
      have HBO := Lib.hid hB
      have HNO := Lib.hid hNm
      have HRO := Lib.hid hRr
      have HQO := Lib.hid hQ
      have HBL := Lib.hid hBl
      have hDr : Below wo.heap.size wo wo.drew := (Below.refl _ wo).drew
      have hff := field_fam
      have hjI : (j : Int) < (N : Int) := by omega
      have hj0 : (0 : Int) ≤ (j : Int) := by omega
      clear hg' hp hb hbn hpb hB hNm hRr hQ hBl hKE hor
      go_wp2
      go_region_held3 (fun w' => w'.cell? ⟨w.heap.size, 0, none⟩ = some (.int .i64 (m : Int)) ∧ w'.cell? ⟨w.heap.size, 1, none⟩ = some (.slice a n c) ∧ w'.cell? ⟨g', j, none⟩ = some (.slice pa2 m pc2) ∧ Below wo.heap.size wo w')
        (first
          | exact HKE.out _ hDr
          | exact HKE.out _ (hDr.trans hb9)
          | exact HKE.out _ ((hDr.trans hb9).trans (hb10.mono hb9.size)))
        (first
          | (go_at_call 29; refine hL1.mono ?_; rintro e w9 ⟨a9, c9, rfl, hS9, hb9⟩)
          | (go_at_call 39; refine hS9.mono ?_; rintro e w11 ⟨a11, c11, rfl, ho10, hb10⟩))
      rename_i hHeld
      obtain ⟨-, -, -, hbw⟩ := hHeld
      have HLs : Hid (OwnN w11 w.heap.size a11 n c11 (lstP zs p)) := Lib.hid (ho10.base (B' := w.heap.size) (by have := hb9.size; simp at this; omega))
      have hcb := HBF.out w11 _ a11 c11 ho10 (HBO.out.below hbw)
      have HBW := Lib.hid hbw
      have hszw : w.heap.size + 1 ≤ w11.heap.size := by have := hbw.size; omega
      clear hbw hb9 hS9 ho10 hb10 hL1 hDr hff
      go_wp2_with fail
      refine hcb.mono ?_
      rintro e w12 ⟨rfl, hb12⟩
      obtain ⟨-, -, z3, hbw2⟩ := HKE.out w12 (HBW.out.trans (hb12.mono HBW.out.size))
      have HLs2 : Hid (OwnN w12 w.heap.size a11 n c11 (lstP zs p)) := Lib.hid (HLs.out.below hb12)
      have HBO2 : Hid (OwnN w12 w.heap.size ba n bc b.1) := Lib.hid (HBO.out.below hbw2)
      have HNO2 : Hid (OwnN w12 w.heap.size na m nc (nI b.2)) := Lib.hid (HNO.out.below hbw2)
      have HOR2 : Hid (OwnN w12 w.heap.size pa2 m pc2 (nI p)) := Lib.hid (HOR.out.below hbw2)
      have HRO2 : Hid (Rws w12 w.heap.size (.slice (some ⟨g', 0, none⟩) N pc) ((lvlL m m).map nI)) := Lib.hid (HRO.out.below hbw2)
      have HQO2 : Hid (HasBlk w12 w.heap.size #[.int .i64 (m : Int), .slice a n c] 25) := Lib.hid ((hbw2.block _ (by omega)).trans HQO.out)
      have HBL2 : Hid (Below w.heap.size w w12) := Lib.hid (HBL.out.trans (hbw2.mono (by omega)))
      have hsz12 : w.heap.size + 1 ≤ w12.heap.size := by have := hbw2.size; omega
      clear hb12 hbw2 hcb
      cases pb
      · go_wp2
        go_roundw
        case rel => exact ⟨j + 1, ba, bc, na, nc, by omega, by omega, by go_num, rfl, rfl, by rw [HNX.out]; exact HBO2.out, by rw [HNX.out]; exact HNO2.out, HRO2.out, HQO2.out, HBL2.out, hsz12⟩
        case measure => simp [intOf]; omega
      · go_wp2
        go_roundw
        case rel => exact ⟨j + 1, a11, c11, pa2, pc2, by omega, by omega, by go_num, rfl, rfl, by rw [HNX.out]; exact HLs2.out, by rw [HNX.out]; exact HOR2.out, HRO2.out, HQO2.out, HBL2.out, hsz12⟩
        case measure => simp [intOf]; omega
    · obtain rfl : j = N := by omega
      have HFI : Hid (RetBest w n m (bestG zs (lvlL m m) ((lvlL m m).length - 1)) (.returned (.tuple #[.slice ba n bc, .slice na m nc])) wo) := Lib.hid ⟨ba, bc, na, nc, rfl, by rw [← HNN.out]; exact hB, by rw [← HNN.out]; exact hNm, hBl⟩
      clear hB hNm hRr hQ hBl
      go_wp2
      go_ret2
      exact HFI.out

end Go.Proofs.YtcnicdaagknmpaaDoor

/- It is proved what listBy returns; conditions: those of each statement. -/
namespace Go.Proofs.YtcnicdaagknmpaaDoor
open Go.RowKit Go.Shelf

attribute [local go_sem] Oper.semAt_some

def z8 : List Int := List.replicate 8 0
/-- The places and clubs that have come. -/
def valsC {P : Nat × Int → Prop} (pre : List { p // P p }) : List (Nat × Int) := pre.map (·.1)

theorem valsC_snoc {P : Nat × Int → Prop} (pre : List { p // P p }) (x : { p // P p }) : valsC (pre ++ [x]) = valsC pre ++ [x.1] := by simp [valsC]
theorem store8 {W : World} {R t : Nat} {L : List Int} (hl : L.length = 8) (h : Nums W R t z8) : ∃ W', ((((((((W.setCell ⟨R, 0, none⟩ (.int .i64 (L[0]?.getD 0))).setCell ⟨R, 1, none⟩ (.int .i64 (L[1]?.getD 0))).setCell ⟨R, 2, none⟩ (.int .i64 (L[2]?.getD 0))).setCell ⟨R, 3, none⟩ (.int .i64 (L[3]?.getD 0))).setCell ⟨R, 4, none⟩ (.int .i64 (L[4]?.getD 0))).setCell ⟨R, 5, none⟩ (.int .i64 (L[5]?.getD 0))).setCell ⟨R, 6, none⟩ (.int .i64 (L[6]?.getD 0))).setCell ⟨R, 7, none⟩ (.int .i64 (L[7]?.getD 0))) = W' ∧ Nums W' R t L ∧ KeepsOthers W W' ∧ ∀ (B : Nat), B ≤ R → Below B W W' := by
  refine ⟨_, rfl, ?_, ?_, fun B hB => ?_⟩
  · obtain ⟨x0, x1, x2, x3, x4, x5, x6, x7, rfl⟩ : ∃ x0 x1 x2 x3 x4 x5 x6 x7 : Int, L = [x0, x1, x2, x3, x4, x5, x6, x7] := by
      match L, hl with
      | [x0, x1, x2, x3, x4, x5, x6, x7], _ => exact ⟨_, _, _, _, _, _, _, _, rfl⟩
    exact (((((((h.set 0 x0).set 1 x1).set 2 x2).set 3 x3).set 4 x4).set 5 x5).set 6 x6).set 7 x7
  · exact ((((((((KeepsOthers.setCell _ _ _).trans (KeepsOthers.setCell _ _ _)).trans (KeepsOthers.setCell _ _ _)).trans (KeepsOthers.setCell _ _ _)).trans (KeepsOthers.setCell _ _ _)).trans (KeepsOthers.setCell _ _ _)).trans (KeepsOthers.setCell _ _ _)).trans (KeepsOthers.setCell _ _ _))
  · have st : ∀ (W1 : World) (i : Nat) (v : Value), Below B W W1 → Below B W (W1.setCell ⟨R, i, none⟩ v) := fun W1 i v h => h.setCell (p := ⟨R, i, none⟩) hB v
    exact st _ _ _ (st _ _ _ (st _ _ _ (st _ _ _ (st _ _ _ (st _ _ _ (st _ _ _ (st _ _ _ (Below.refl _ _))))))))

theorem below_keeps {W W' : World} (h : Below W.heap.size W W') : KeepsOthers W W' := ⟨h.size, fun k o hk _ => (h.block k (lt_of_some hk)).trans hk⟩
theorem alloc5 (w : World) (o0 o1 o2 o3 o4 : Obj) : ∃ W, ((((w.alloc o0).alloc o1).alloc o2).alloc o3).alloc o4 = W ∧ W.heap[w.heap.size]? = some o0 ∧ W.heap[w.heap.size + 1]? = some o1 ∧ W.heap[w.heap.size + 1 + 1]? = some o2 ∧
    W.heap[w.heap.size + 1 + 1 + 1]? = some o3 ∧ W.heap[w.heap.size + 1 + 1 + 1 + 1]? = some o4 ∧ W.heap.size = w.heap.size + 1 + 1 + 1 + 1 + 1 ∧ Below w.heap.size w W := by
  refine ⟨_, rfl, ?_, ?_, ?_, ?_, ?_, by simp, ((below3 w o0 o1 o2).alloc (by simp; omega) _).alloc (by simp; omega) _⟩
  · exact (alloc_old _ _ _ (by simp <;> omega)).trans ((alloc_old _ _ _ (by simp <;> omega)).trans (alloc3_0 w o0 o1 o2))
  · exact (alloc_old _ _ _ (by simp <;> omega)).trans ((alloc_old _ _ _ (by simp <;> omega)).trans (alloc3_1 w o0 o1 o2))
  · exact (alloc_old _ _ _ (by simp <;> omega)).trans ((alloc_old _ _ _ (by simp <;> omega)).trans (alloc3_2 w o0 o1 o2))
  · exact (alloc_old _ _ _ (by simp <;> omega)).trans (by rw [show w.heap.size + 1 + 1 + 1 = (((w.alloc o0).alloc o1).alloc o2).heap.size from by simp]; exact alloc_new _ _)
  · rw [show w.heap.size + 1 + 1 + 1 + 1 = ((((w.alloc o0).alloc o1).alloc o2).alloc o3).heap.size from by simp]; exact alloc_new _ _

set_option maxRecDepth 100000 in
set_option maxHeartbeats 4000000 in
theorem listBy_any (m : Nat) (a : Option Addr) (c : Nat) (zs : List Int) (pa : Option Addr) (pc : Nat) (ps : List Int) (hp : Okp m ps) (w : World) (ha : Ints w w.heap.size a zs) (hpi : Ints w w.heap.size pa ps) (hT : Tab w) (hf : famIn (m : Int) zs = true) :
    Calls Tryd.prog 51 #[.agg #[.int .i64 (m : Int), .slice a zs.length c], .slice pa ps.length pc] w fun e w' => e = .returned (.agg (iv (keyL zs ps))) ∧ Below w.heap.size w w' := by
  have HI := Lib.hid ha
  have HPI := Lib.hid hpi
  have HPc := Lib.hid (isClub_all hf)
  obtain ⟨hm1, hm6, hl8, -⟩ := famIn_out hf
  have hm6' : m ≤ 6 := by omega
  have HT := Lib.hid hT
  have HOK := Lib.hid hp
  obtain ⟨n, hn⟩ : ∃ n, n = zs.length := ⟨_, rfl⟩
  have HN := Lib.hid hn
  obtain ⟨pn, hpn⟩ : ∃ pn, pn = ps.length := ⟨_, rfl⟩
  have HPN := Lib.hid hpn
  have hx : n ≤ 8 := by omega
  rw [← hn, ← hpn]
  clear ha hf hn hl8 hpi hT hp hpn
  refine (callsIn_wide (n := 6)).1 ?_
  refine callsIn_of_wp_marks Tryd.func51 rfl trivial ?_ rfl
  simp only [Tryd.ntmps51, List.size_toArray, List.length_cons, List.length_nil, Nat.reduceAdd, Nat.reduceSub, Array.replicate_succ, Array.replicate_zero, List.push_toArray, List.append_toArray, List.nil_append, List.cons_append]
  gi_wp2_with (refine ⟨trivial, ?_⟩; gi_at_call 23; refine (callsIn_wide.2 (clubs_any _ _ _ _ _)).mono ?_; rintro e w' ⟨rfl, rfl⟩)
  have h16 : 1 ≤ 6 := by omega
  obtain ⟨W0, hW0, q0, q1, q2, q3, q4, hso, hb0⟩ := alloc5 w (.cells #[.int .i64 (m : Int), .slice a n c] 25) (.cells #[.slice pa pn pc] 23) (.cells #[Value.int IntKind.i64 0, Value.int IntKind.i64 0, Value.int IntKind.i64 0, Value.int IntKind.i64 0, Value.int IntKind.i64 0, Value.int IntKind.i64 0, Value.int IntKind.i64 0, Value.int IntKind.i64 0] 47) (.cells #[Value.int IntKind.i64 0, Value.int IntKind.i64 0, Value.int IntKind.i64 0, Value.int IntKind.i64 0, Value.int IntKind.i64 0, Value.int IntKind.i64 0, Value.int IntKind.i64 0, Value.int IntKind.i64 0] 47) (.cells #[.int .i64 (m : Int), .slice a n c] 25)
  rw [hW0]
  obtain ⟨M, hM⟩ : ∃ M, M = w.heap.size + 1 + 1 + 1 := ⟨_, rfl⟩
  rw [← hM] at q3 q4 hso ⊢
  obtain ⟨R, hR⟩ : ∃ R, R = w.heap.size + 1 + 1 := ⟨_, rfl⟩
  rw [← hR] at q2 ⊢
  have HSO := Lib.hid hso
  have HB0 := Lib.hid hb0
  have Q0 : Hid (HasBlk W0 w.heap.size #[.int .i64 (m : Int), .slice a n c] 25) := Lib.hid q0
  have Q1 : Hid (HasBlk W0 (w.heap.size + 1) #[.slice pa pn pc] 23) := Lib.hid q1
  have Q2 : Hid (Nums W0 R 47 z8) := Lib.hid q2
  have Q3 : Hid (Nums W0 M 47 (madeL ps (valsC ([] : List { p // IsClub m p })))) := Lib.hid q3
  have hMR : R < M := by omega
  have hM1 : w.heap.size + 1 < M := by omega
  have hhR : w.heap.size ≤ R := by omega
  have hst := clubsP_stops (IsClub m) (6 - 1) (by omega) (M + 1) w.heap.size a c zs (by have := HN.out; omega) HPc.out W0 (by omega) (by omega) (by rw [← HN.out]; exact (blk_cell q4 1).trans (cell2_1 _ _)) (HI.out.below HB0.out)
  rw [← HN.out] at hst
  clear hW0 q0 q1 q2 q3 q4 hso hb0 hM hR
  refine wpIn_rangeFunc_ownG rfl h16 (gf := 41) (lb := #[.pointer (some ⟨M + 1, 0, none⟩)]) rfl trivial (enters_of Tryd.func41 (by kernel_rfl) rfl)
    hst belowK_t (belowK_b (by have := HSO.out; omega)) (Below.refl _ _) (fun _ => rfl)
    (fun pre Wr => Nums Wr M 47 (madeL ps (valsC pre)) ∧ Below M W0 Wr)
    (fun _ _ _ => False)
    (OwnFrom.and (Own.from (nums_own _ _ (fun pre : List { p // IsClub m p } => madeL ps (valsC pre))) _) (ownFrom_below (by have := HSO.out; omega) (by have := HSO.out; omega)))
    (fun _ _ _ _ _ hs _ _ => hs)
    ⟨Q3.out, Below.refl _ _⟩
    (fun x => { tmps := #[.agg #[.int .i64 (m : Int), .slice a n c], .slice pa pn pc, .pointer (some ⟨w.heap.size, 0, none⟩), .pointer (some ⟨w.heap.size + 1, 0, none⟩), .pointer (some ⟨R, 0, none⟩), .pointer (some ⟨M, 0, none⟩), .int .i64 (x.1.1 : Int), .int .i64 x.1.2, .agg #[.int .i64 (m : Int), .slice a n c], .func (.func 41) #[] #[.pointer (some ⟨M + 1, 0, none⟩)], .int .i64 (x.1.1 : Int), .int .i64 x.1.2, undef, undef, undef, undef, undef, undef, undef, undef, undef, undef, undef], defers := [] }) ?assign ?body ?done ?stop
  case assign =>
    intro l x Wr K hK
    gi_wp2
    exact hK
  case body =>
    rintro l pre x Wr ⟨hv, hB⟩ hlt
    obtain ⟨q, hq⟩ : ∃ q : Nat, x.1.2 = (q : Int) := ⟨x.1.2.toNat, by have := x.2.2.1; omega⟩
    have hq2 : q < 2 ^ m := by have := x.2.2.2; rw [hq] at this; simpa using this
    have h8 : x.1.1 < 8 := x.2.1
    obtain ⟨k, hk⟩ : ∃ k, k = x.1.1 := ⟨_, rfl⟩
    have HMK : Hid (madeL ps (valsC (pre ++ [x])) = (madeL ps (valsC pre)).set k ((called ps q : Nat) : Int)) := Lib.hid (by rw [valsC_snoc, madeL_snoc, hk, callZ, hq]; rfl)
    rw [hq, ← hk]
    rw [← hk] at h8
    have c1 := (blk_cell (show HasBlk Wr (w.heap.size + 1) #[.slice pa pn pc] 23 from (hB.block _ hM1).trans Q1.out) 0).trans (cell1_0 _)
    have hBw : Below w.heap.size w Wr := HB0.out.trans (hB.mono (by omega))
    have HPr : Hid (Ints Wr Wr.heap.size pa ps) := Lib.hid ((HPI.out.below hBw).mono hBw.size)
    have HTr : Hid (Tab Wr) := Lib.hid (HT.out.below hBw HT.out.lt)
    have HV := Lib.hid hv
    have HB := Lib.hid hB
    have hML : M < Wr.heap.size := hv.lt
    have hk8 : (k : Int) < 8 := by omega
    have hk0 : (0 : Int) ≤ (k : Int) := by omega
    clear hv hB hk hq hBw
    have HNM := fun W' => named_any m q hm6' hq2 pa pc ps HOK.out W'
    rw [← HPN.out] at HNM
    gi_wp2_with (refine ⟨trivial, ?_⟩; gi_at_call 63; refine (CallsIn.inRound l (callsIn_wide.2 (HNM _ HPr.out HTr.out))).mono ?_; rintro e w' ⟨rfl, hb'⟩; have HV' := Lib.hid (HV.out.below hb' hML); have c3 := HV'.out.cell k (by rw [madeL_len]; omega); have f3 := HV'.out.frozen k; have HBB := Lib.hid hb'; clear hb')
    have hbM : Below M Wr ((w'.setCell ⟨M, k, none⟩ (.int .i64 ((called ps q : Nat) : Int)))) := (HBB.out.mono (show M ≤ Wr.heap.size by omega)).setCell (p := ⟨M, k, none⟩) (Nat.le_refl _) _
    refine ⟨((below_keeps HBB.out).trans (KeepsOthers.setCell _ _ _)).from _, (hbM.mono (by omega)), ?_, HB.out.trans hbM⟩
    rw [HMK.out]
    exact HV'.out.set _ _
  case done =>
    rintro D ys Wr hD hys ⟨hv, hB⟩ hK
    have hz8 : zs.length ≤ 8 := by have := HN.out; omega
    have hvv : valsC ys = pairs zs zs.length := by rw [← HN.out]; exact hys
    have x1 := (blk_cell (show HasBlk Wr w.heap.size #[.int .i64 (m : Int), .slice a n c] 25 from (hB.block _ (by omega)).trans Q0.out) 1).trans (cell2_1 _ _)
    have HV := Lib.hid hv
    have HK := Lib.hid hK
    have HB := Lib.hid hB
    have hML : M < Wr.heap.size := hv.lt
    have hn8 : (n : Int) ≤ 8 := by omega
    have hDM : D ≠ M := by have := HSO.out; omega
    have hDR : D ≠ R := by have := HSO.out; omega
    have hDl : D < Wr.heap.size := lt_of_some hK
    have HKE : Hid (((madeL ps (valsC ys)).take n).mergeSort leZ ++ (madeL ps (valsC ys)).drop n = keyL zs ps) := Lib.hid (by rw [hvv, HN.out]; exact keyL_made zs ps hz8)
    clear hv hB hK hvv hys
    gi_wp2_with (refine ⟨trivial, ?_⟩; gi_at_call 64; refine (callsIn_wide.2 (sort_nums M n 8 47 _ Wr HV.out (by rw [madeL_len]; exact hx) hx (by rw [madeL_len]; omega))).mono ?_; rw [HKE.out]; rintro e w' ⟨rfl, hN2, hg2⟩; have HN2 := Lib.hid hN2; have HR2 : Hid (Nums w' R 47 z8) := Lib.hid (((show Nums Wr R 47 z8 from (HB.out.block R hMR).trans Q2.out)).kept hg2 (fun e => by injection e; omega)); have HG2 := Lib.hid hg2; clear hN2 hg2; have d0 := HN2.out.cell 0 (by rw [keyL_len _ _ hz8]; omega); have d1 := HN2.out.cell 1 (by rw [keyL_len _ _ hz8]; omega); have d2 := HN2.out.cell 2 (by rw [keyL_len _ _ hz8]; omega); have d3 := HN2.out.cell 3 (by rw [keyL_len _ _ hz8]; omega); have d4 := HN2.out.cell 4 (by rw [keyL_len _ _ hz8]; omega); have d5 := HN2.out.cell 5 (by rw [keyL_len _ _ hz8]; omega); have d6 := HN2.out.cell 6 (by rw [keyL_len _ _ hz8]; omega); have d7 := HN2.out.cell 7 (by rw [keyL_len _ _ hz8]; omega); have e0 := HR2.out.cell 0 (by simp [z8]); have g0 := HR2.out.frozen 0; have e1 := HR2.out.cell 1 (by simp [z8]); have g1 := HR2.out.frozen 1; have e2 := HR2.out.cell 2 (by simp [z8]); have g2 := HR2.out.frozen 2; have e3 := HR2.out.cell 3 (by simp [z8]); have g3 := HR2.out.frozen 3; have e4 := HR2.out.cell 4 (by simp [z8]); have g4 := HR2.out.frozen 4; have e5 := HR2.out.cell 5 (by simp [z8]); have g5 := HR2.out.frozen 5; have e6 := HR2.out.cell 6 (by simp [z8]); have g6 := HR2.out.frozen 6; have e7 := HR2.out.cell 7 (by simp [z8]); have g7 := HR2.out.frozen 7; simp only [z8, List.replicate, List.getElem?_cons_zero, List.getElem?_cons_succ, Option.getD_some] at e0 e1 e2 e3 e4 e5 e6 e7)
    obtain ⟨Wf, hWf, hF, hKf, hBf⟩ := store8 (keyL_len zs ps hz8) HR2.out
    rw [hWf]
    have hK1 : Wf.heap[D]? = some (.deferred (some [])) := hKf.same _ _ ((HG2.out.block D hDl (fun e => by injection e; omega)).trans HK.out) rfl
    refine ⟨by simp, .inl ⟨_, _, rfl, run_takeDeferred hK1, ?_⟩⟩
    have HF2 : Nums (Wf.putObj D (.deferred none)) R 47 (keyL zs ps) := (World.putObj_heap_other (by omega)).trans hF
    have r0 := HF2.cell 0 (by rw [keyL_len _ _ hz8]; omega)
    have r1 := HF2.cell 1 (by rw [keyL_len _ _ hz8]; omega)
    have r2 := HF2.cell 2 (by rw [keyL_len _ _ hz8]; omega)
    have r3 := HF2.cell 3 (by rw [keyL_len _ _ hz8]; omega)
    have r4 := HF2.cell 4 (by rw [keyL_len _ _ hz8]; omega)
    have r5 := HF2.cell 5 (by rw [keyL_len _ _ hz8]; omega)
    have r6 := HF2.cell 6 (by rw [keyL_len _ _ hz8]; omega)
    have r7 := HF2.cell 7 (by rw [keyL_len _ _ hz8]; omega)
    refine ⟨.agg (iv (keyL zs ps)), ?_, rfl, ?_⟩
    · rw [← iv8 (keyL_len zs ps hz8)]
      simp [results, Tryd.results51, go_sem, r0, r1, r2, r3, r4, r5, r6, r7]
    · have hb1 : Below w.heap.size w Wf := (HB0.out.trans (HB.out.mono (by omega))).trans (((Below.refl w.heap.size Wr).grown HG2.out (by omega) (fun j e => by cases e; omega)).trans (hBf _ hhR))
      exact hb1.trans (belowK_b (w := w) (Nat.le_refl _) Wf D _ _ (by have := HSO.out; omega) hK1 rfl rfl)
  case stop =>
    rintro D c pre W _ _ h _
    exact h.elim

end Go.Proofs.YtcnicdaagknmpaaDoor

/- It is proved what the method ask leaves in its map; conditions: those of each statement. -/
namespace Go.Proofs.YtcnicdaagknmpaaDoor
open Go.RowKit Go.Shelf Go.Maps

attribute [local go_sem] Oper.semAt_some

/-- allNames(members): the number is boxed; the function value holds the box. -/
theorem allNames_any (m : Int) (w : World) :
    Calls Tryd.prog 50 #[.int .i64 m] w fun e w' => e = .returned (.func (.func 60) #[] #[.pointer (some ⟨w.heap.size, 0, none⟩)]) ∧ w' = w.alloc (.cells #[.int .i64 m] 3) := by
  have hmf : ∀ (fn : Fn) (first cap : Array Value) (w : World), (Instr.makeFunc fn first cap).run Tryd.prog w = .ok (.func fn first cap) w := fun _ _ _ _ => rfl
  go_enter Tryd.func50, Tryd.ntmps50
  go_wp2
  go_ret
  exact ⟨rfl, rfl⟩

/-- The map of namings. -/
abbrev OwnT (W : World) (b n : Nat) (D : DataW Unit) : Prop := W.ownsMap Tryd.prog 47 rowR b n D

theorem OwnT.but {W W' : World} {b n : Nat} {D : DataW Unit} {X : Nat → Prop} (h : OwnT W b n D) (hb : But X W W') (hX : ¬ X b) : OwnT W' b n D := by
  obtain ⟨es, clock, hB, F, hs, hD⟩ := h
  exact ⟨es, clock, hb.keep hX hB, F, hs, hD⟩

theorem OwnT.blk {W : World} {b n : Nat} {D : DataW Unit} (h : OwnT W b n D) : ∃ es clock, W.heap[b]? = some (.map es clock) := by
  obtain ⟨es, clock, hB, _⟩ := h; exact ⟨es, clock, hB⟩

theorem ints_but {W W' : World} {b B : Nat} {a : Option Addr} {zs : List Int} (h : Ints W B a zs) (hB : B ≤ W.heap.size) (hb : But (fun k => k = b) W W') (hm : ∃ es clock, W.heap[b]? = some (.map es clock)) : Ints W' B a zs := by
  rcases h with h | ⟨g, off, e, hg, hc⟩
  · exact .inl h
  · by_cases hz : zs = []
    · exact .inl hz
    · refine .inr ⟨g, off, e, hg, fun j hj => ?_⟩
      have hne : g ≠ b := by
        rintro rfl
        obtain ⟨es, clock, hm⟩ := hm
        have := hc 0 (List.length_pos_iff.2 hz)
        simp [World.cell?, hm] at this
      exact (World.cell?_of_block (a := ⟨g, off + j, none⟩) (hb.same g (by omega) hne)).trans (hc j hj)

theorem clear_own {W : World} {b n : Nat} {D : DataW Unit} (h : OwnT W b n D) : ∃ W', (∀ ty, (Builtin.clear_ #[45] ty #[.map (some b)]).run Tryd.prog W = .ok (.tuple #[]) W') ∧ OwnT W' b 0 (.map []) ∧ W.grownBy W' (some b) := by
  obtain ⟨es, clock, hb, F, hs, hD⟩ := h
  refine ⟨ChangeMaps.setBlock W b (.map #[] clock), fun ty => ?_, ⟨#[], clock, ChangeMaps.heap_setBlock_same hb _, ⟨by simp, MapKept.stamped_empty _, by simp⟩, Nat.le_refl _, rfl⟩, ⟨rfl, rfl, rfl, by simp [ChangeMaps.setBlock], fun i _ hi => ChangeMaps.heap_setBlock_other hb _ (fun e => hi (by rw [e]))⟩⟩
  simp [Builtin.clear_, run_underlying Tryd.underlying45, MapKept.run_getObj_map hb, MapKept.run_setObj_map _ hb, Result.andThen]
  rfl

end Go.Proofs.YtcnicdaagknmpaaDoor
