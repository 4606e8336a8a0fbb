/- It is proved what l2Before and l2Equal return; conditions: those of each statement. -/
import Derived.Deep.QuietTactic
import Derived.BigQuiet
import Derived.RowKit
import Derived.RangeFuncNested
import Derived.RangeFuncBound
import Derived.RangeFuncCalls
import Derived.RangeFuncLeaves
import Derived.RangeFuncBox
import Derived.RangeFuncWrites
import Derived.Test.YtgpgocijacgkhaaDoorRows
import Derived.WalkKit
import Derived.WalkSpells
import Derived.ProofKit
import Derived.OpenShut
import Derived.ShutString
import Derived.ChangeOld
import Derived.Below
import Derived.Deep.RegionHeld3
import Derived.Lib.Hide
import Derived.Lib.SmallJoins
import Derived.Outline
import Derived.Laws.MakeOwn
import Derived.Laws.OwnMore
import Derived.IntWalk
import Derived.Deep.RegionLaw
import Derived.Deep.AppendLies
import Derived.Lib.AppendZeros
import Derived.Maps.AppendAt
import Derived.OwnWalk
import Derived.Shelf.Abstract
import Derived.Shelf.RegionOpen
import Derived.OwnWalkIn
import Derived.TacticsInMore
import Derived.LoopNIn
import Derived.LoopIn
import Derived.Shelf.Spec.TrailingZeros
import Derived.Test.YtgpgocijacgkhaaDoorRaaa
import Derived.Test.YtgpgocijacgkhaaDoorRaab
import Derived.Test.YtgpgocijacgkhaaDoorRaah
import Derived.Laws.CopyRow
import Derived.Lib.SlBuf
import Derived.Lib.SlicesCompact
import Derived.Lib.OwnBridge
import Derived.Shelf.Sort.Plain
import Derived.Shelf.Slices.In.SortNone
import Derived.Shelf.Slices.CompactI
import Derived.Ground.Names2Prog
import Derived.StillTail
import Derived.StillTactics
import Derived.OrdersIn
import Derived.TacticsIn
import Derived.StillTailTactics
import Derived.Test.YtgpgocijacgkhaaDoorRabhxFnAlik
import Derived.Test.YtgpgocijacgkhaaDoorTb
import Derived.Maps.OwnIn
import Derived.Maps.Ext
import Derived.DeepKeys4
import Derived.MapKept
import Derived.Test.YtgpgocijacgkhaaDoorRabdxFnAlik
import Derived.Test.YtgpgocijacgkhaaDoorRabexFnAlik
import Derived.Test.YtgpgocijacgkhaaDoorRabgxFnAlik
import Derived.Test.YtgpgocijacgkhaaDoorRaac
namespace Go.Proofs.YtgpgocijacgkhaaDoor
open Go.RowKit Go.Shelf

/-- A beginning is less than what goes on. -/
def lexB : List Int → List Int → Bool
  | [], [] => false
  | [], _ :: _ => true
  | _ :: _, [] => false
  | x :: xs, y :: ys => if x = y then lexB xs ys else decide (x < y)

theorem lex_drop : ∀ (i : Nat) (xs ys : List Int), i ≤ xs.length → i ≤ ys.length → (∀ j, j < i → xs[j]?.getD 0 = ys[j]?.getD 0) → lexB xs ys = lexB (xs.drop i) (ys.drop i)
  | 0, _, _, _, _, _ => rfl
  | i + 1, [], _, h, _, _ => by simp at h
  | i + 1, _ :: _, [], _, h, _ => by simp at h
  | i + 1, x :: xs, y :: ys, h1, h2, h => by
    have h0 := h 0 (by omega)
    simp at h0
    subst h0
    rw [lexB, if_pos rfl, List.drop_succ_cons, List.drop_succ_cons]
    exact lex_drop i xs ys (by simpa using h1) (by simpa using h2) (fun j hj => by simpa using h (j + 1) (by omega))

theorem lex_ne {i : Nat} {xs ys : List Int} (h1 : i < xs.length) (h2 : i < ys.length) (h : ∀ j, j < i → xs[j]?.getD 0 = ys[j]?.getD 0) (hn : xs[i]?.getD 0 ≠ ys[i]?.getD 0) : lexB xs ys = decide (xs[i]?.getD 0 < ys[i]?.getD 0) := by
  rw [lex_drop i xs ys (by omega) (by omega) h, List.drop_eq_getElem_cons h1, List.drop_eq_getElem_cons h2, lexB]
  rw [List.getElem?_eq_getElem h1, List.getElem?_eq_getElem h2] at hn ⊢
  simp only [Option.getD_some] at hn ⊢
  rw [if_neg hn]

theorem lex_end {i : Nat} {xs ys : List Int} (h1 : i ≤ xs.length) (h2 : i ≤ ys.length) (h3 : i = xs.length ∨ i = ys.length) (h : ∀ j, j < i → xs[j]?.getD 0 = ys[j]?.getD 0) : lexB xs ys = decide (xs.length < ys.length) := by
  rw [lex_drop i xs ys h1 h2 h]
  rcases h3 with rfl | rfl
  · rw [List.drop_length]
    by_cases h4 : xs.length < ys.length
    · rw [List.drop_eq_getElem_cons h4, lexB]; simp [h4]
    · rw [List.drop_of_length_le (by omega), lexB]; simp [h4]
  · rw [List.drop_length]
    by_cases h4 : ys.length < xs.length
    · rw [List.drop_eq_getElem_cons h4, lexB]; simp; omega
    · rw [List.drop_of_length_le (by omega), lexB]; simp; omega

theorem lex_both : ∀ xs ys : List Int, (!lexB xs ys && !lexB ys xs) = decide (xs = ys)
  | [], [] => by simp [lexB]
  | [], _ :: _ => by simp [lexB]
  | _ :: _, [] => by simp [lexB]
  | x :: xs, y :: ys => by
    by_cases h : x = y
    · subst h
      rw [lexB, lexB, if_pos rfl, if_pos rfl, lex_both xs ys]
      simp
    · rw [lexB, lexB, if_neg h, if_neg (fun e => h e.symm)]
      by_cases h2 : x < y
      · simp [h, h2]
      · have : y < x := by omega
        simp [h, this]

set_option maxRecDepth 100000 in
set_option maxHeartbeats 4000000 in
theorem before_any (a b : Option Addr) (c d : Nat) (xs ys : List Int) (w : World) (ha : Ints w w.heap.size a xs) (hb : Ints w w.heap.size b ys) (hx : xs.length ≤ 1048576) (hy : ys.length ≤ 1048576) :
    Calls Tryd.prog 90 #[.slice a xs.length c, .slice b ys.length d] w fun e w' => e = .returned (.bool (lexB xs ys)) ∧ Below w.heap.size w w' := by
  obtain ⟨n, hn⟩ : ∃ n, n = xs.length := ⟨_, rfl⟩
  obtain ⟨m, hm⟩ : ∃ m, m = ys.length := ⟨_, rfl⟩
  have HN := Lib.hid hn
  have HM := Lib.hid hm
  rw [← hn, ← hm]
  rw [← hn] at hx
  rw [← hm] at hy
  have HA := Lib.hid ha
  have HB := Lib.hid hb
  clear ha hb hn hm
  go_enter Tryd.func90, Tryd.ntmps90
  go_wp2
  go_loopw [5] (fun i wr => ∃ k : Nat, k ≤ n ∧ k ≤ m ∧ i = .int .i64 (k : Int) ∧ (∀ j, j < k → xs[j]?.getD 0 = ys[j]?.getD 0) ∧ Below w.heap.size w wr) (fun i _ => n - (intOf i).toNat)
  case atStart => exact ⟨0, Nat.zero_le _, Nat.zero_le _, rfl, fun j h => by omega, Below.refl _ _⟩
  case round =>
    obtain ⟨k, hk1, hk2, rfl, he, hB⟩ := hrel
    by_cases h1 : k < n
    · by_cases h2 : k < m
      · obtain ⟨b1, o1, rfl, hb1, hc1⟩ := HA.out.at_ (k := k) (by rw [← HN.out]; exact h1)
        obtain ⟨b2, o2, rfl, hb2, hc2⟩ := HB.out.at_ (k := k) (by rw [← HM.out]; exact h2)
        have c1 := (hB.cell (p := ⟨b1, o1 + k, none⟩) hb1).trans hc1
        have c2 := (hB.cell (p := ⟨b2, o2 + k, none⟩) hb2).trans hc2
        obtain ⟨x, hxe⟩ : ∃ x, x = xs[k]?.getD 0 := ⟨_, rfl⟩
        obtain ⟨y, hye⟩ : ∃ y, y = ys[k]?.getD 0 := ⟨_, rfl⟩
        rw [← hxe] at c1
        rw [← hye] at c2
        have hk0 : (0 : Int) ≤ (k : Int) := by omega
        have hk1 : (k : Int) < (n : Int) := by omega
        have hk2 : (k : Int) < (m : Int) := by omega
        have HBW := Lib.hid hB
        by_cases hxy : x = y
        · have HE : Hid (∀ j, j < k + 1 → xs[j]?.getD 0 = ys[j]?.getD 0) := Lib.hid (fun j hj => by
            rcases Nat.lt_succ_iff_lt_or_eq.1 hj with h | rfl
            · exact he j h
            · rw [← hxe, ← hye]; exact hxy)
          clear he hB hc1 hc2 hxe hye
          subst hxy
          go_wp2
          go_quiet (fail)
          go_wp2
          go_roundw
          case rel => exact ⟨k + 1, by omega, by omega, by go_num, HE.out, below_drewN HBW.out _⟩
          case measure => simp [intOf]; omega
        · have HF : Hid (lexB xs ys = decide (x < y)) := Lib.hid (by rw [hxe, hye]; exact lex_ne (by rw [← HN.out]; exact h1) (by rw [← HM.out]; exact h2) he (by rw [← hxe, ← hye]; exact hxy))
          have hne : (x != y) = true := by simp [hxy]
          clear he hB hc1 hc2 hxe hye
          go_wp2
          go_quiet (fail)
          go_wp2
          go_quiet (fail)
          go_wp2
          go_ret
          refine ⟨by rw [HF.out]; rfl, ?_⟩
          first | exact below_drewN (below_drewN HBW.out _) _ | exact below_drewN HBW.out _
      · have HF : Hid (lexB xs ys = decide (n < m)) := Lib.hid (by
          have := HN.out; have := HM.out
          rw [lex_end (i := k) (by omega) (by omega) (by omega) he, ← HN.out, ← HM.out])
        have h2I : ¬ ((k : Int) < (m : Int)) := by omega
        have h1I : (k : Int) < (n : Int) := by omega
        have HBW := Lib.hid hB
        clear he hB
        go_wp2
        go_ret
        exact ⟨by rw [HF.out]; simp, HBW.out⟩
    · have HF : Hid (lexB xs ys = decide (n < m)) := Lib.hid (by
        have := HN.out; have := HM.out
        rw [lex_end (i := k) (by omega) (by omega) (by omega) he, ← HN.out, ← HM.out])
      have h1I : ¬ ((k : Int) < (n : Int)) := by omega
      have HBW := Lib.hid hB
      clear he hB
      go_wp2
      go_ret
      exact ⟨by rw [HF.out]; simp, HBW.out⟩

end Go.Proofs.YtgpgocijacgkhaaDoor

/- It is proved what l2Equal returns, and what appending a row to rows leaves; conditions: those of each statement. -/
namespace Go.Proofs.YtgpgocijacgkhaaDoor
open Go.RowKit Go.Shelf

set_option maxRecDepth 100000 in
set_option maxHeartbeats 1000000 in
theorem equal_any (a b : Option Addr) (c d : Nat) (xs ys : List Int) (w : World) (ha : Ints w w.heap.size a xs) (hb : Ints w w.heap.size b ys) (hx : xs.length ≤ 1048576) (hy : ys.length ≤ 1048576) :
    Calls Tryd.prog 67 #[.slice a xs.length c, .slice b ys.length d] w fun e w' => e = .returned (.bool (decide (xs = ys))) ∧ Below w.heap.size w w' := by
  have hlb := lex_both xs ys
  obtain ⟨p, hp⟩ : ∃ p, p = lexB xs ys := ⟨_, rfl⟩
  obtain ⟨q, hq⟩ : ∃ q, q = lexB ys xs := ⟨_, rfl⟩
  rw [← hp, ← hq] at hlb
  have HL := Lib.hid hlb
  have h1 := before_any a b c d xs ys w ha hb hx hy
  rw [← hp] at h1
  have h2 : ∀ W, Below w.heap.size w W → Calls Tryd.prog 90 #[.slice b ys.length d, .slice a xs.length c] W fun e w' => e = .returned (.bool q) ∧ Below W.heap.size W w' := fun W hW => by
    rw [hq]
    exact before_any b a d c ys xs W ((hb.below hW).mono hW.size) ((ha.below hW).mono hW.size) hy hx
  have H2 := Lib.hid h2
  clear hlb hp hq h2 ha hb
  cases p
  · go_enter Tryd.func67, Tryd.ntmps67
    go_wp2_with fail
    refine h1.mono ?_
    rintro e w1 ⟨rfl, hb1⟩
    have hc2 := H2.out w1 hb1
    have HB1 := Lib.hid hb1
    clear h1 hb1
    go_wp2_with (go_at_call 90; refine hc2.mono ?_; rintro e w2 ⟨rfl, hb2⟩)
    go_ret
    exact ⟨by rw [← HL.out]; cases q <;> rfl, HB1.out.trans (hb2.mono HB1.out.size)⟩
  · go_enter Tryd.func67, Tryd.ntmps67
    go_wp2_with (go_at_call 90; refine h1.mono ?_; rintro e w1 ⟨rfl, hb1⟩)
    go_ret
    exact ⟨by rw [← HL.out]; cases q <;> rfl, hb1⟩

theorem Rws.kept {W W' : World} {B : Nat} {v : Value} {L : List (List Int)} {row : Option Nat} {B' n' : Nat} {v' : Value} {xs' : List Value} (h : Rws W B v L) (hg : W.grownBy W' row) (hr : row = v'.ownBlock) (hv' : W.ownsRow B' 23 1 v' n' xs') (hne : v.ownBlock = none ∨ v.ownBlock ≠ row) : Rws W' B v L := by
  obtain ⟨vals, h1, h2⟩ := h
  subst hr
  exact ⟨vals, h1.kept hg hne, fun i hi => by
    obtain ⟨a, c, e, ho⟩ := h2 i hi
    exact ⟨a, c, e, ho.kept hg (type_ne ho hv' (by decide))⟩⟩

end Go.Proofs.YtgpgocijacgkhaaDoor

/- It is proved what l2Own returns; conditions: those of each statement. -/
namespace Go.Proofs.YtgpgocijacgkhaaDoor
open Go.RowKit Go.Shelf

theorem field_fam (x0 : Int) (a : Option Addr) (n c : Nat) (w : World) : (Instr.field 25 (.agg #[.int .i64 x0, .slice a n c]) 1).run Tryd.prog w = .ok (.slice a n c) w := by kernel_rfl
end Go.Proofs.YtgpgocijacgkhaaDoor

/- It is proved what l2Best returns; conditions: those of each statement. -/
namespace Go.Proofs.YtgpgocijacgkhaaDoor
open Go.RowKit Go.Shelf

/-- The list that the names p make, in order. -/
def lstP (zs : List Int) (p : List Nat) : List Int := (zs.map (callZ (nI p))).mergeSort leZ

/-- The least list of the names up to L[i], and the first names that make it. -/
def bestG (zs : List Int) (L : List (List Nat)) : Nat → List Int × List Nat
  | 0 => (lstP zs (L[0]?.getD []), L[0]?.getD [])
  | i + 1 => if lexB (lstP zs (L[i + 1]?.getD [])) (bestG zs L i).1 then (lstP zs (L[i + 1]?.getD []), L[i + 1]?.getD []) else bestG zs L i

theorem lstP_len (zs : List Int) (p : List Nat) : (lstP zs p).length = zs.length := by unfold lstP; rw [List.length_mergeSort, List.length_map]
theorem bestG_len (zs : List Int) (L : List (List Nat)) : ∀ i, (bestG zs L i).1.length = zs.length
  | 0 => lstP_len _ _
  | i + 1 => by
    rw [bestG]; split
    · exact lstP_len _ _
    · exact bestG_len zs L i

theorem bestG_in (zs : List Int) (L : List (List Nat)) : ∀ i, i < L.length → (bestG zs L i).2 ∈ L
  | 0, h => by rw [bestG, List.getElem?_eq_getElem h]; exact List.getElem_mem h
  | i + 1, h => by
    rw [bestG]; split
    · rw [List.getElem?_eq_getElem h]; exact List.getElem_mem h
    · exact bestG_in zs L i (by omega)

set_option maxRecDepth 100000 in
theorem lvlL_pos_fin : ∀ m : Fin 7, 0 < (lvlL m.val m.val).length := by decide +kernel

theorem lvlL_pos {m : Nat} (hm : m ≤ 6) : 0 < (lvlL m m).length := lvlL_pos_fin ⟨m, by omega⟩
def RetBest (w : World) (n m : Nat) (b : List Int × List Nat) (e : Ending) (w' : World) : Prop :=
  ∃ ba bc na nc, e = .returned (.tuple #[.slice ba n bc, .slice na m nc]) ∧ OwnN w' w.heap.size ba n bc b.1 ∧ OwnN w' w.heap.size na m nc (nI b.2) ∧ Below w.heap.size w w'

set_option maxRecDepth 100000 in
set_option maxHeartbeats 8000000 in
theorem specBest_any (m : Nat) (hm : m ≤ 6) (a : Option Addr) (c : Nat) (zs : List Int) (w : World) (ha : Ints w w.heap.size a zs) (hf : famIn (m : Int) zs = true) :
    Calls Tryd.prog 66 #[.agg #[.int .i64 (m : Int), .slice a zs.length c]] w (RetBest w zs.length m (bestG zs (lvlL m m) ((lvlL m m).length - 1))) := by
  obtain ⟨hm1, hm6, hl8, -⟩ := famIn_out hf
  have hb1 := below1 w (.cells #[.int .i64 (m : Int), .slice a zs.length c] 25)
  have q0 := alloc_new w (.cells #[.int .i64 (m : Int), .slice a zs.length c] 25)
  have hs1 : (w.alloc (.cells #[.int .i64 (m : Int), .slice a zs.length c] 25)).heap.size = w.heap.size + 1 := by simp
  obtain ⟨w1, hw1⟩ : ∃ w1, w.alloc (.cells #[.int .i64 (m : Int), .slice a zs.length c] 25) = w1 := ⟨_, rfl⟩
  rw [hw1] at hb1 q0 hs1
  obtain ⟨n, hn⟩ : ∃ n, n = zs.length := ⟨_, rfl⟩
  have HN := Lib.hid hn
  have HA := Lib.hid ha
  have HF := Lib.hid hf
  have HB1 := Lib.hid hb1
  have HS1 := Lib.hid hs1
  rw [← hn] at hw1 q0 ⊢
  have HQ0 : Hid (HasBlk w1 w.heap.size #[.int .i64 (m : Int), .slice a n c] 25) := Lib.hid q0
  have x0 := (blk_cell q0 0).trans (cell2_0 _ _)
  have hn8 : n ≤ 8 := by omega
  clear ha hf hb1 q0 hs1 hn hl8
  go_enter Tryd.func66, Tryd.ntmps66
  go_wp2_with fail
  refine (perms_any m hm w1).mono ?_
  rintro e w2 ⟨pv, rfl, hRp, hb2⟩
  obtain ⟨pa, pc, rfl⟩ := hRp.form
  obtain ⟨N, hN⟩ : ∃ N, N = (lvlL m m).length := ⟨_, rfl⟩
  have hNs : N ≤ 46656 := by rw [hN]; exact lvlL_small hm (Nat.le_refl m)
  have hN0 : 0 < N := by rw [hN]; exact lvlL_pos hm
  have HNN := Lib.hid hN
  have HOK : Hid (∀ k, k < N → Okp m (nI ((lvlL m m)[k]?.getD [])) ∧ ((lvlL m m)[k]?.getD []).length = m) := Lib.hid (fun k hk => by
    have hk' : k < (lvlL m m).length := by have := HNN.out; omega
    rw [List.getElem?_eq_getElem hk', Option.getD_some]
    exact ⟨okp_nI hm (lvlL_in (List.getElem_mem hk')) (lvlL_lt (List.getElem_mem hk')), lvlL_in (List.getElem_mem hk')⟩)
  have hRp2 : Rws w2 w.heap.size (.slice pa N pc) ((lvlL m m).map nI) := by
    have := hRp.base (B' := w.heap.size) (by have := HS1.out; omega)
    rwa [List.length_map, ← hN] at this
  have HBW2 : Hid (Below w.heap.size w w2) := Lib.hid (HB1.out.trans (hb2.mono (by have := HS1.out; omega)))
  have q02 : HasBlk w2 w.heap.size #[.int .i64 (m : Int), .slice a n c] 25 := (hb2.block _ (by have := HS1.out; omega)).trans HQ0.out
  have hsz2 : w.heap.size + 1 ≤ w2.heap.size := by have := hb2.size; have := HS1.out; omega
  rw [List.length_map, ← hN]
  -- what a list's region leaves, at any world
  have HRUN : Hid (∀ (wo : World) (k : Nat), k < N → HasBlk wo w.heap.size #[.int .i64 (m : Int), .slice a n c] 25 → Below w.heap.size w wo → w.heap.size + 1 ≤ wo.heap.size → Rws wo w.heap.size (.slice pa N pc) ((lvlL m m).map nI) → ∃ g pa' pc', pa = some ⟨g, 0, none⟩ ∧
      (∀ w', Below wo.heap.size wo w' → w'.cell? ⟨w.heap.size, 0, none⟩ = some (.int .i64 (m : Int)) ∧ w'.cell? ⟨w.heap.size, 1, none⟩ = some (.slice a n c) ∧ w'.cell? ⟨g, k, none⟩ = some (.slice pa' m pc') ∧ Below wo.heap.size wo w') ∧
      OwnN wo w.heap.size pa' m pc' (nI ((lvlL m m)[k]?.getD [])) ∧
      Calls Tryd.prog 58 #[.agg #[.int .i64 (m : Int), .slice a n c], .slice pa' m pc'] wo.drew (fun e w' => ∃ a9 c9, e = .returned (.agg #[.int .i64 (m : Int), .slice a9 n c9]) ∧ (Calls Tryd.prog 89 #[.slice a9 n c9] w' fun e w'' => ∃ a' c', e = .returned (.slice a' n c') ∧ OwnN w'' w'.heap.size a' n c' (lstP zs ((lvlL m m)[k]?.getD [])) ∧ Below w'.heap.size w' w'') ∧ Below wo.drew.heap.size wo.drew w')) := Lib.hid (by
    intro wo k hk hq hBw hsz hRa
    obtain ⟨hok, hpl⟩ := HOK.out k hk
    obtain ⟨p, hp⟩ : ∃ p, p = (lvlL m m)[k]?.getD [] := ⟨_, rfl⟩
    rw [← hp] at hok hpl ⊢
    have hkl : k < (lvlL m m).length := by have := HNN.out; omega
    have e2 : ((lvlL m m).map nI)[k]?.getD [] = nI p := by rw [List.getElem?_map, hp, List.getElem?_eq_getElem hkl]; rfl
    obtain ⟨g, pa', pc', rfl, hcr, hor⟩ := hRa.at_ (i := k) (by rw [List.length_map]; exact hkl)
    rw [e2, nI_len, hpl] at hcr hor
    have hpm : (nI p).length = m := by rw [nI_len, hpl]
    have hgl : g < wo.heap.size := lt_of_cell hcr
    have x0 := (blk_cell hq 0).trans (cell2_0 _ _)
    have x1 := (blk_cell hq 1).trans (cell2_1 _ _)
    refine ⟨g, pa', pc', rfl, fun w' h => ⟨(h.cell (p := ⟨w.heap.size, 0, none⟩) (show w.heap.size < wo.heap.size by omega)).trans x0, (h.cell (p := ⟨w.heap.size, 1, none⟩) (show w.heap.size < wo.heap.size by omega)).trans x1, (h.cell (p := ⟨g, k, none⟩) hgl).trans hcr, h⟩, hor, ?_⟩
    have hL1 := l1Named_any m a pa' c pc' zs (nI p) wo.drew ((HA.out.below hBw).mono (show w.heap.size ≤ wo.heap.size by omega)) (own_ints (show OwnI wo w.heap.size (.slice pa' (nI p).length pc') (nI p) from by rw [hpm]; unfold OwnI; rw [hpm]; exact hor)) HF.out hok
    rw [hpm, ← HN.out] at hL1
    refine hL1.mono ?_
    rintro e w9 ⟨a9, c9, rfl, ho9, hb9⟩
    refine ⟨a9, c9, by rw [List.length_map, ← HN.out], ?_, hb9⟩
    have h9 := l2Sorted_any a9 c9 (zs.map (callZ (nI p))) w9 (own_ints ho9) (by rw [List.length_map]; have := HN.out; omega)
    rwa [List.length_map, ← HN.out] at h9)
  obtain ⟨g, pa', pc', rfl, hKE, hor, hL1⟩ := HRUN.out w2 0 hN0 q02 HBW2.out hsz2 hRp2
  have HKE := Lib.hid hKE
  have HOR := Lib.hid hor
  have HRP := Lib.hid hRp2
  have HQ2 := Lib.hid q02
  have hNI : (0 : Int) < (N : Int) := by omega
  have hDr : Below w2.heap.size w2 w2.drew := (Below.refl _ w2).drew
  have hff := field_fam
  clear hRp hRp2 hb2 hN q02 x0 hw1 hKE hor
  go_wp2_with fail
  go_region_held3 (fun w' => w'.cell? ⟨w.heap.size, 0, none⟩ = some (.int .i64 (m : Int)) ∧ w'.cell? ⟨w.heap.size, 1, none⟩ = some (.slice a n c) ∧ w'.cell? ⟨g, 0, none⟩ = some (.slice pa' m pc') ∧ Below w2.heap.size w2 w')
    (first
      | exact HKE.out _ hDr
      | exact HKE.out _ (hDr.trans hb9)
      | exact HKE.out _ ((hDr.trans hb9).trans (hb10.mono hb9.size)))
    (first
      | (go_at_call 58; refine hL1.mono ?_; rintro e w9 ⟨a9, c9, rfl, hS9, hb9⟩)
      | (go_at_call 89; refine hS9.mono ?_; rintro e w10 ⟨a10, c10, rfl, ho10, hb10⟩))
  rename_i hHeld
  obtain ⟨-, -, z2, hbw⟩ := hHeld
  have HBS : Hid (OwnN w10 w.heap.size a10 n c10 (bestG zs (lvlL m m) (1 - 1)).1) := Lib.hid (ho10.base (B' := w.heap.size) (by have := hb9.size; simp at this; omega))
  have HNS : Hid (OwnN w10 w.heap.size pa' m pc' (nI (bestG zs (lvlL m m) (1 - 1)).2)) := Lib.hid (HOR.out.below hbw)
  have HRS : Hid (Rws w10 w.heap.size (.slice (some ⟨g, 0, none⟩) N pc) ((lvlL m m).map nI)) := Lib.hid (HRP.out.below hbw)
  have HQS : Hid (HasBlk w10 w.heap.size #[.int .i64 (m : Int), .slice a n c] 25) := Lib.hid ((hbw.block _ (by omega)).trans HQ2.out)
  have HBS2 : Hid (Below w.heap.size w w10) := Lib.hid (HBW2.out.trans (hbw.mono (by omega)))
  have hsz10 : w.heap.size + 1 ≤ w10.heap.size := by have := hbw.size; omega
  clear hbw hb9 hS9 ho10 hb10 hL1 hDr hff
  go_wp2
  go_loopw [5, 6, 7] (fun b q i wr => ∃ (j : Nat) (ba : Option Addr) (bc : Nat) (na : Option Addr) (nc : Nat), 1 ≤ j ∧ j ≤ N ∧ i = .int .i64 (j : Int) ∧ b = .slice ba n bc ∧ q = .slice na m nc ∧ OwnN wr w.heap.size ba n bc (bestG zs (lvlL m m) (j - 1)).1 ∧ OwnN wr w.heap.size na m nc (nI (bestG zs (lvlL m m) (j - 1)).2) ∧ Rws wr w.heap.size (.slice (some ⟨g, 0, none⟩) N pc) ((lvlL m m).map nI) ∧ HasBlk wr w.heap.size #[.int .i64 (m : Int), .slice a n c] 25 ∧ Below w.heap.size w wr ∧ w.heap.size + 1 ≤ wr.heap.size) (fun _ _ i _ => N - (intOf i).toNat)
  case atStart => exact ⟨1, _, _, _, _, Nat.le_refl _, hN0, rfl, rfl, rfl, HBS.out, HNS.out, HRS.out, HQS.out, HBS2.out, hsz10⟩
  case round =>
    obtain ⟨j, ba, bc, na, nc, hj1, hj, rfl, rfl, rfl, hB, hNm, hRr, hQ, hBl, hsz⟩ := hrel
    obtain ⟨wo, hwo⟩ : ∃ wo, wo = wr := ⟨wr, rfl⟩
    subst hwo
    by_cases hlt : j < N
    · obtain ⟨g', pa2, pc2, hg', hKE, hor, hL1⟩ := HRUN.out wo j hlt hQ hBl hsz hRr
      obtain rfl : g' = g := by injection hg' with e; injection e with e; exact e.symm
      obtain ⟨p, hp⟩ : ∃ p, p = (lvlL m m)[j]?.getD [] := ⟨_, rfl⟩
      rw [← hp] at hor hL1
      obtain ⟨b, hb⟩ : ∃ b, b = bestG zs (lvlL m m) (j - 1) := ⟨_, rfl⟩
      have hbn : b.1.length = n := by rw [hb, bestG_len, HN.out]
      rw [← hb] at hB hNm
      obtain ⟨pb, hpb⟩ : ∃ pb, pb = lexB (lstP zs p) b.1 := ⟨_, rfl⟩
      have HNX : Hid (bestG zs (lvlL m m) (j + 1 - 1) = if pb then (lstP zs p, p) else b) := Lib.hid (by
        rw [show j + 1 - 1 = (j - 1) + 1 from by omega, bestG, show j - 1 + 1 = j from by omega, ← hp, ← hb, ← hpb])
      have HBF : Hid (∀ w10 B a10 c10, OwnN w10 B a10 n c10 (lstP zs p) → OwnN w10 w.heap.size ba n bc b.1 → Calls Tryd.prog 90 #[.slice a10 n c10, .slice ba n bc] w10 fun e w' => e = .returned (.bool pb) ∧ Below w10.heap.size w10 w') := Lib.hid (fun w10 B a10 c10 h h' => by
        have l1 : (lstP zs p).length = n := by rw [lstP_len]; exact HN.out.symm
        have h9 := before_any a10 ba c10 bc (lstP zs p) b.1 w10 (own_ints (show OwnI w10 B (.slice a10 (lstP zs p).length c10) _ from by unfold OwnI; rw [l1]; exact h)) (own_ints (show OwnI w10 w.heap.size (.slice ba b.1.length bc) _ from by unfold OwnI; rw [hbn]; exact h')) (by omega) (by omega)
        rwa [l1, hbn, ← hpb] at h9)
      have HKE := Lib.hid hKE
      have HOR := Lib.hid hor
      have HBO := Lib.hid hB
      have HNO := Lib.hid hNm
      have HRO := Lib.hid hRr
      have HQO := Lib.hid hQ
      have HBL := Lib.hid hBl
      have hDr : Below wo.heap.size wo wo.drew := (Below.refl _ wo).drew
      have hff := field_fam
      have hjI : (j : Int) < (N : Int) := by omega
      have hj0 : (0 : Int) ≤ (j : Int) := by omega
      clear hg' hp hb hbn hpb hB hNm hRr hQ hBl hKE hor
      go_wp2
      go_region_held3 (fun w' => w'.cell? ⟨w.heap.size, 0, none⟩ = some (.int .i64 (m : Int)) ∧ w'.cell? ⟨w.heap.size, 1, none⟩ = some (.slice a n c) ∧ w'.cell? ⟨g', j, none⟩ = some (.slice pa2 m pc2) ∧ Below wo.heap.size wo w')
        (first
          | exact HKE.out _ hDr
          | exact HKE.out _ (hDr.trans hb9)
          | exact HKE.out _ ((hDr.trans hb9).trans (hb10.mono hb9.size)))
        (first
          | (go_at_call 58; refine hL1.mono ?_; rintro e w9 ⟨a9, c9, rfl, hS9, hb9⟩)
          | (go_at_call 89; refine hS9.mono ?_; rintro e w11 ⟨a11, c11, rfl, ho10, hb10⟩))
      rename_i hHeld
      obtain ⟨-, -, -, hbw⟩ := hHeld
      have HLs : Hid (OwnN w11 w.heap.size a11 n c11 (lstP zs p)) := Lib.hid (ho10.base (B' := w.heap.size) (by have := hb9.size; simp at this; omega))
      have hcb := HBF.out w11 _ a11 c11 ho10 (HBO.out.below hbw)
      have HBW := Lib.hid hbw
      have hszw : w.heap.size + 1 ≤ w11.heap.size := by have := hbw.size; omega
      clear hbw hb9 hS9 ho10 hb10 hL1 hDr hff
      go_wp2_with fail
      refine hcb.mono ?_
      rintro e w12 ⟨rfl, hb12⟩
      obtain ⟨-, -, z3, hbw2⟩ := HKE.out w12 (HBW.out.trans (hb12.mono HBW.out.size))
      have HLs2 : Hid (OwnN w12 w.heap.size a11 n c11 (lstP zs p)) := Lib.hid (HLs.out.below hb12)
      have HBO2 : Hid (OwnN w12 w.heap.size ba n bc b.1) := Lib.hid (HBO.out.below hbw2)
      have HNO2 : Hid (OwnN w12 w.heap.size na m nc (nI b.2)) := Lib.hid (HNO.out.below hbw2)
      have HOR2 : Hid (OwnN w12 w.heap.size pa2 m pc2 (nI p)) := Lib.hid (HOR.out.below hbw2)
      have HRO2 : Hid (Rws w12 w.heap.size (.slice (some ⟨g', 0, none⟩) N pc) ((lvlL m m).map nI)) := Lib.hid (HRO.out.below hbw2)
      have HQO2 : Hid (HasBlk w12 w.heap.size #[.int .i64 (m : Int), .slice a n c] 25) := Lib.hid ((hbw2.block _ (by omega)).trans HQO.out)
      have HBL2 : Hid (Below w.heap.size w w12) := Lib.hid (HBL.out.trans (hbw2.mono (by omega)))
      have hsz12 : w.heap.size + 1 ≤ w12.heap.size := by have := hbw2.size; omega
      clear hb12 hbw2 hcb
      cases pb
      · go_wp2
        go_roundw
        case rel => exact ⟨j + 1, ba, bc, na, nc, by omega, by omega, by go_num, rfl, rfl, by rw [HNX.out]; exact HBO2.out, by rw [HNX.out]; exact HNO2.out, HRO2.out, HQO2.out, HBL2.out, hsz12⟩
        case measure => simp [intOf]; omega
      · go_wp2
        go_roundw
        case rel => exact ⟨j + 1, a11, c11, pa2, pc2, by omega, by omega, by go_num, rfl, rfl, by rw [HNX.out]; exact HLs2.out, by rw [HNX.out]; exact HOR2.out, HRO2.out, HQO2.out, HBL2.out, hsz12⟩
        case measure => simp [intOf]; omega
    · obtain rfl : j = N := by omega
      have HFI : Hid (RetBest w n m (bestG zs (lvlL m m) ((lvlL m m).length - 1)) (.returned (.tuple #[.slice ba n bc, .slice na m nc])) wo) := Lib.hid ⟨ba, bc, na, nc, rfl, by rw [← HNN.out]; exact hB, by rw [← HNN.out]; exact hNm, hBl⟩
      clear hB hNm hRr hQ hBl
      go_wp2
      go_ret2
      exact HFI.out

end Go.Proofs.YtgpgocijacgkhaaDoor
