/- It is proved what l2Before and l2Equal return; conditions: those of each statement. -/
import Derived.Deep.QuietTactic
import Derived.BigQuiet
import Derived.RowKit
import Derived.RangeFuncNested
import Derived.RangeFuncBound
import Derived.RangeFuncCalls
import Derived.RangeFuncLeaves
import Derived.RangeFuncBox
import Derived.RangeFuncWrites
import Derived.Test.YtijpgbkjgjpmmaaDoorRows
import Derived.WalkKit
import Derived.WalkSpells
import Derived.ProofKit
import Derived.OpenShut
import Derived.ShutString
import Derived.ChangeOld
import Derived.Below
import Derived.Deep.RegionHeld3
import Derived.Lib.Hide
import Derived.Lib.SmallJoins
import Derived.Outline
import Derived.Laws.MakeOwn
import Derived.Laws.OwnMore
import Derived.IntWalk
import Derived.Lib.AppendZeros
import Derived.Maps.AppendAt
import Derived.Deep.AppendLies
import Derived.OwnWalk
import Derived.Shelf.Abstract
import Derived.Shelf.RegionOpen
import Derived.OwnWalkIn
import Derived.TacticsInMore
import Derived.LoopNIn
import Derived.LoopIn
import Derived.Shelf.Spec.TrailingZeros
import Derived.Test.YtijpgbkjgjpmmaaDoorMraa
import Derived.Test.YtijpgbkjgjpmmaaDoorMraf
import Derived.Laws.CopyRow
import Derived.Lib.SlBuf
import Derived.Lib.SlicesCompact
import Derived.Lib.OwnBridge
import Derived.Shelf.Sort.Plain
import Derived.Shelf.Slices.In.SortNone
import Derived.Shelf.Slices.CompactI
import Derived.Ground.Names2Prog
import Derived.StillTail
import Derived.StillTactics
import Derived.OrdersIn
import Derived.TacticsIn
import Derived.StillTailTactics
import Derived.Test.YtijpgbkjgjpmmaaDoorMral
import Derived.Test.YtijpgbkjgjpmmaaDoorMraj
import Derived.Test.YtijpgbkjgjpmmaaDoorMrac
import Derived.Maps.OwnIn
import Derived.Maps.Ext
import Derived.DeepKeys4
import Derived.MapKept
import Derived.Test.YtijpgbkjgjpmmaaDoorMrab
import Derived.Test.YtijpgbkjgjpmmaaDoorMrae
import Derived.Test.YtijpgbkjgjpmmaaDoorMrah
import Derived.Test.YtijpgbkjgjpmmaaDoorMrak
import Derived.Test.YtijpgbkjgjpmmaaDoorMrad
namespace Go.Proofs.YtijpgbkjgjpmmaaDoor
open Go.RowKit Go.Shelf

/-- A beginning is less than what goes on. -/
def lexB : List Int → List Int → Bool
  | [], [] => false
  | [], _ :: _ => true
  | _ :: _, [] => false
  | x :: xs, y :: ys => if x = y then lexB xs ys else decide (x < y)

theorem lex_drop : ∀ (i : Nat) (xs ys : List Int), i ≤ xs.length → i ≤ ys.length → (∀ j, j < i → xs[j]?.getD 0 = ys[j]?.getD 0) → lexB xs ys = lexB (xs.drop i) (ys.drop i)
  | 0, _, _, _, _, _ => rfl
  | i + 1, [], _, h, _, _ => by simp at h
  | i + 1, _ :: _, [], _, h, _ => by simp at h
  | i + 1, x :: xs, y :: ys, h1, h2, h => by
    have h0 := h 0 (by omega)
    simp at h0
    subst h0
    rw [lexB, if_pos rfl, List.drop_succ_cons, List.drop_succ_cons]
    exact lex_drop i xs ys (by simpa using h1) (by simpa using h2) (fun j hj => by simpa using h (j + 1) (by omega))

theorem lex_ne {i : Nat} {xs ys : List Int} (h1 : i < xs.length) (h2 : i < ys.length) (h : ∀ j, j < i → xs[j]?.getD 0 = ys[j]?.getD 0) (hn : xs[i]?.getD 0 ≠ ys[i]?.getD 0) : lexB xs ys = decide (xs[i]?.getD 0 < ys[i]?.getD 0) := by
  rw [lex_drop i xs ys (by omega) (by omega) h, List.drop_eq_getElem_cons h1, List.drop_eq_getElem_cons h2, lexB]
  rw [List.getElem?_eq_getElem h1, List.getElem?_eq_getElem h2] at hn ⊢
  simp only [Option.getD_some] at hn ⊢
  rw [if_neg hn]

theorem lex_end {i : Nat} {xs ys : List Int} (h1 : i ≤ xs.length) (h2 : i ≤ ys.length) (h3 : i = xs.length ∨ i = ys.length) (h : ∀ j, j < i → xs[j]?.getD 0 = ys[j]?.getD 0) : lexB xs ys = decide (xs.length < ys.length) := by
  rw [lex_drop i xs ys h1 h2 h]
  rcases h3 with rfl | rfl
  · rw [List.drop_length]
    by_cases h4 : xs.length < ys.length
    · rw [List.drop_eq_getElem_cons h4, lexB]; simp [h4]
    · rw [List.drop_of_length_le (by omega), lexB]; simp [h4]
  · rw [List.drop_length]
    by_cases h4 : ys.length < xs.length
    · rw [List.drop_eq_getElem_cons h4, lexB]; simp; omega
    · rw [List.drop_of_length_le (by omega), lexB]; simp; omega

theorem lex_both : ∀ xs ys : List Int, (!lexB xs ys && !lexB ys xs) = decide (xs = ys)
  | [], [] => by simp [lexB]
  | [], _ :: _ => by simp [lexB]
  | _ :: _, [] => by simp [lexB]
  | x :: xs, y :: ys => by
    by_cases h : x = y
    · subst h
      rw [lexB, lexB, if_pos rfl, if_pos rfl, lex_both xs ys]
      simp
    · rw [lexB, lexB, if_neg h, if_neg (fun e => h e.symm)]
      by_cases h2 : x < y
      · simp [h, h2]
      · have : y < x := by omega
        simp [h, this]

set_option maxRecDepth 100000 in
set_option maxHeartbeats 4000000 in
theorem before_any (a b : Option Addr) (c d : Nat) (xs ys : List Int) (w : World) (ha : Ints w w.heap.size a xs) (hb : Ints w w.heap.size b ys) (hx : xs.length ≤ 1048576) (hy : ys.length ≤ 1048576) :
    Calls Tryd.prog 48 #[.slice a xs.length c, .slice b ys.length d] w fun e w' => e = .returned (.bool (lexB xs ys)) ∧ Below w.heap.size w w' := by
  obtain ⟨n, hn⟩ : ∃ n, n = xs.length := ⟨_, rfl⟩
  obtain ⟨m, hm⟩ : ∃ m, m = ys.length := ⟨_, rfl⟩
  have HN := Lib.hid hn
  have HM := Lib.hid hm
  rw [← hn, ← hm]
  rw [← hn] at hx
  rw [← hm] at hy
  have HA := Lib.hid ha
  have HB := Lib.hid hb
  clear ha hb hn hm
  go_enter Tryd.func48, Tryd.ntmps48
  go_wp2
  go_loopw [5] (fun i wr => ∃ k : Nat, k ≤ n ∧ k ≤ m ∧ i = .int .i64 (k : Int) ∧ (∀ j, j < k → xs[j]?.getD 0 = ys[j]?.getD 0) ∧ Below w.heap.size w wr) (fun i _ => n - (intOf i).toNat)
  case atStart => exact ⟨0, Nat.zero_le _, Nat.zero_le _, rfl, fun j h => by omega, Below.refl _ _⟩
  case round =>
    obtain ⟨k, hk1, hk2, rfl, he, hB⟩ := hrel
    by_cases h1 : k < n
    · by_cases h2 : k < m
      · obtain ⟨b1, o1, rfl, hb1, hc1⟩ := HA.out.at_ (k := k) (by rw [← HN.out]; exact h1)
        obtain ⟨b2, o2, rfl, hb2, hc2⟩ := HB.out.at_ (k := k) (by rw [← HM.out]; exact h2)
        have c1 := (hB.cell (p := ⟨b1, o1 + k, none⟩) hb1).trans hc1
        have c2 := (hB.cell (p := ⟨b2, o2 + k, none⟩) hb2).trans hc2
        obtain ⟨x, hxe⟩ : ∃ x, x = xs[k]?.getD 0 := ⟨_, rfl⟩
        obtain ⟨y, hye⟩ : ∃ y, y = ys[k]?.getD 0 := ⟨_, rfl⟩
        rw [← hxe] at c1
        rw [← hye] at c2
        have hk0 : (0 : Int) ≤ (k : Int) := by omega
        have hk1 : (k : Int) < (n : Int) := by omega
        have hk2 : (k : Int) < (m : Int) := by omega
        have HBW := Lib.hid hB
        by_cases hxy : x = y
        · have HE : Hid (∀ j, j < k + 1 → xs[j]?.getD 0 = ys[j]?.getD 0) := Lib.hid (fun j hj => by
            rcases Nat.lt_succ_iff_lt_or_eq.1 hj with h | rfl
            · exact he j h
            · rw [← hxe, ← hye]; exact hxy)
          clear he hB hc1 hc2 hxe hye
          subst hxy
          go_wp2
          go_quiet (fail)
          go_wp2
          go_roundw
          case rel => exact ⟨k + 1, by omega, by omega, by go_num, HE.out, below_drewN HBW.out _⟩
          case measure => simp [intOf]; omega
        · have HF : Hid (lexB xs ys = decide (x < y)) := Lib.hid (by rw [hxe, hye]; exact lex_ne (by rw [← HN.out]; exact h1) (by rw [← HM.out]; exact h2) he (by rw [← hxe, ← hye]; exact hxy))
          have hne : (x != y) = true := by simp [hxy]
          clear he hB hc1 hc2 hxe hye
          go_wp2
          go_quiet (fail)
          go_wp2
          go_quiet (fail)
          go_wp2
          go_ret
          refine ⟨by rw [HF.out]; rfl, ?_⟩
          first | exact below_drewN (below_drewN HBW.out _) _ | exact below_drewN HBW.out _
      · have HF : Hid (lexB xs ys = decide (n < m)) := Lib.hid (by
          have := HN.out; have := HM.out
          rw [lex_end (i := k) (by omega) (by omega) (by omega) he, ← HN.out, ← HM.out])
        have h2I : ¬ ((k : Int) < (m : Int)) := by omega
        have h1I : (k : Int) < (n : Int) := by omega
        have HBW := Lib.hid hB
        clear he hB
        go_wp2
        go_ret
        exact ⟨by rw [HF.out]; simp, HBW.out⟩
    · have HF : Hid (lexB xs ys = decide (n < m)) := Lib.hid (by
        have := HN.out; have := HM.out
        rw [lex_end (i := k) (by omega) (by omega) (by omega) he, ← HN.out, ← HM.out])
      have h1I : ¬ ((k : Int) < (n : Int)) := by omega
      have HBW := Lib.hid hB
      clear he hB
      go_wp2
      go_ret
      exact ⟨by rw [HF.out]; simp, HBW.out⟩

end Go.Proofs.YtijpgbkjgjpmmaaDoor

/- It is proved what l2Equal returns, and what appending a row to rows leaves; conditions: those of each statement. -/
namespace Go.Proofs.YtijpgbkjgjpmmaaDoor
open Go.RowKit Go.Shelf

set_option maxRecDepth 100000 in
set_option maxHeartbeats 1000000 in
theorem equal_any (a b : Option Addr) (c d : Nat) (xs ys : List Int) (w : World) (ha : Ints w w.heap.size a xs) (hb : Ints w w.heap.size b ys) (hx : xs.length ≤ 1048576) (hy : ys.length ≤ 1048576) :
    Calls Tryd.prog 27 #[.slice a xs.length c, .slice b ys.length d] w fun e w' => e = .returned (.bool (decide (xs = ys))) ∧ Below w.heap.size w w' := by
  have hlb := lex_both xs ys
  obtain ⟨p, hp⟩ : ∃ p, p = lexB xs ys := ⟨_, rfl⟩
  obtain ⟨q, hq⟩ : ∃ q, q = lexB ys xs := ⟨_, rfl⟩
  rw [← hp, ← hq] at hlb
  have HL := Lib.hid hlb
  have h1 := before_any a b c d xs ys w ha hb hx hy
  rw [← hp] at h1
  have h2 : ∀ W, Below w.heap.size w W → Calls Tryd.prog 48 #[.slice b ys.length d, .slice a xs.length c] W fun e w' => e = .returned (.bool q) ∧ Below W.heap.size W w' := fun W hW => by
    rw [hq]
    exact before_any b a d c ys xs W ((hb.below hW).mono hW.size) ((ha.below hW).mono hW.size) hy hx
  have H2 := Lib.hid h2
  clear hlb hp hq h2 ha hb
  cases p
  · go_enter Tryd.func27, Tryd.ntmps27
    go_wp2_with fail
    refine h1.mono ?_
    rintro e w1 ⟨rfl, hb1⟩
    have hc2 := H2.out w1 hb1
    have HB1 := Lib.hid hb1
    clear h1 hb1
    go_wp2_with (go_at_call 48; refine hc2.mono ?_; rintro e w2 ⟨rfl, hb2⟩)
    go_ret
    exact ⟨by rw [← HL.out]; cases q <;> rfl, HB1.out.trans (hb2.mono HB1.out.size)⟩
  · go_enter Tryd.func27, Tryd.ntmps27
    go_wp2_with (go_at_call 48; refine h1.mono ?_; rintro e w1 ⟨rfl, hb1⟩)
    go_ret
    exact ⟨by rw [← HL.out]; cases q <;> rfl, hb1⟩

theorem Rws.kept {W W' : World} {B : Nat} {v : Value} {L : List (List Int)} {row : Option Nat} {B' n' : Nat} {v' : Value} {xs' : List Value} (h : Rws W B v L) (hg : W.grownBy W' row) (hr : row = v'.ownBlock) (hv' : W.ownsRow B' 23 1 v' n' xs') (hne : v.ownBlock = none ∨ v.ownBlock ≠ row) : Rws W' B v L := by
  obtain ⟨vals, h1, h2⟩ := h
  subst hr
  exact ⟨vals, h1.kept hg hne, fun i hi => by
    obtain ⟨a, c, e, ho⟩ := h2 i hi
    exact ⟨a, c, e, ho.kept hg (type_ne ho hv' (by decide))⟩⟩

/-- A row that is there is put behind rows. -/
theorem app_row {W : World} {B : Nat} {v : Value} {L : List (List Int)} (hR : Rws W B v L) (hBW : B ≤ W.heap.size) (hL : L.length ≤ 100000) (a1 : Option Addr) (c1 k : Nat) (l : List Int) (hl : l.length = k) (h1 : OwnN W B a1 k c1 l) (ga : Nat) (hga : ga < W.heap.size) (hne : v.ownBlock ≠ some ga) :
    ∃ a5 c5 w5, (Builtin.append_ #[68, 68] 68 #[v, .slice (some ⟨W.heap.size, 0, none⟩) 1 1]).run Tryd.prog (W.alloc (.cells #[.slice a1 k c1] 23)) = .ok (.slice a5 (L.length + 1) c5) w5 ∧
      Rws w5 B (.slice a5 (L.length + 1) c5) (L ++ [l]) ∧ (Value.slice a5 (L.length + 1) c5).ownBlock ≠ some ga ∧ (W.alloc (.cells #[.slice a1 k c1] 23)).grownBy w5 v.ownBlock ∧ (∃ n' xs', (W.alloc (.cells #[.slice a1 k c1] 23)).ownsRow B 23 1 v n' xs') ∧ Below B W w5 := by
  obtain ⟨i0, hi0, hz0, hz1, hz2⟩ := info_parts Tryd.infoRow
  obtain ⟨vals, hv1, hv2⟩ := hR.alloc (.cells #[.slice a1 k c1] 23)
  have ho5 := World.ownsRow.alloc h1 (.cells #[.slice a1 k c1] 23)
  have hnb := alloc_new W (.cells #[.slice a1 k c1] 23)
  have hb5 : Below W.heap.size W (W.alloc (.cells #[.slice a1 k c1] 23)) := below1 W _
  obtain ⟨v', w5, hr5, h2, h3, _, h4⟩ := run_append_own_at (P := Tryd.prog) (w := W.alloc (.cells #[.slice a1 k c1] 23)) B 68 68 23 i0 (.slice none 0 0) 1 24 Tryd.underlying68 hi0 hz0 hz1 hz2 rfl (by decide) v L.length vals hv1 ⟨W.heap.size, 0, none⟩ 1 1 [.slice a1 k c1] (by simp)
    (fun j u hu => by
      have hj : j = 0 := by have := (List.getElem?_eq_some_iff.1 hu).1; simpa using this
      subst hj
      simp at hu
      subst hu
      exact blk_cell hnb 0) (by simp [Value.oneCell']) (by simp only [maxLen]; omega) (by omega) (Nat.le_trans hBW hb5.size)
  obtain ⟨a5, c5, rfl⟩ : ∃ a5 c5, v' = .slice a5 (L.length + 1) c5 := by
    rcases h2.2 with ⟨rfl, e⟩ | ⟨g, cap, cur, rfl, _⟩
    · omega
    · exact ⟨_, _, rfl⟩
  have hsz : (W.alloc (.cells #[.slice a1 k c1] 23)).heap.size = W.heap.size + 1 := by simp
  refine ⟨a5, c5, w5, hr5, ⟨vals ++ [.slice a1 k c1], by rw [List.length_append]; exact h2, fun i hi => ?_⟩, ?_, h3, ⟨_, _, hv1⟩, ?_⟩
  · have hvl : vals.length = L.length := by have := hv1.1; omega
    rw [List.length_append] at hi
    by_cases hil : i < L.length
    · rw [List.getElem?_append_left (by omega), List.getElem?_append_left hil]
      obtain ⟨a', c', e, ho⟩ := hv2 i hil
      exact ⟨a', c', e, ho.kept h3 (type_ne ho hv1 (by decide))⟩
    · have hie : i = L.length := by simp at hi; omega
      subst hie
      rw [List.getElem?_append_right (by omega), List.getElem?_append_right (by omega), hvl, Nat.sub_self]
      refine ⟨a1, c1, by simp [hl], ?_⟩
      have h6 := ho5.kept h3 (type_ne ho5 hv1 (by decide))
      simp only [List.getElem?_cons_zero, Option.getD_some, hl]
      exact h6
  · rcases h4 with h | h
    · rw [h]; exact hne
    · rw [h, hsz]; intro e; injection e with e; omega
  · exact (hb5.mono hBW).grown h3 (Nat.le_trans hBW hb5.size) (fun g e => (World.ownsRow.lt hv1 g e).1)

end Go.Proofs.YtijpgbkjgjpmmaaDoor

/- It is proved what l2Own returns; conditions: those of each statement. -/
namespace Go.Proofs.YtijpgbkjgjpmmaaDoor
open Go.RowKit Go.Shelf

set_option maxRecDepth 100000 in
theorem called_id_fin : ∀ m : Fin 7, ∀ s : Fin 64, s.val < 2 ^ m.val → called (nI (List.range m.val)) s.val = s.val := by decide +kernel

theorem called_id {m s : Nat} (hm : m ≤ 6) (hs : s < 2 ^ m) : called (nI (List.range m)) s = s :=
  called_id_fin ⟨m, by omega⟩ ⟨s, Nat.lt_of_lt_of_le hs (Nat.pow_le_pow_right (by decide) hm : 2 ^ m ≤ 2 ^ 6)⟩ hs

theorem own_map {m : Nat} (hm : m ≤ 6) {zs : List Int} (h : ∀ z ∈ zs, 0 ≤ z ∧ z.toNat < 2 ^ m) : zs.map (callZ (nI (List.range m))) = zs := by
  conv => rhs; rw [← List.map_id zs]
  apply List.map_congr_left
  intro z hz
  obtain ⟨h1, h2⟩ := h z hz
  unfold callZ
  rw [called_id hm h2]
  simp; omega

theorem own_pred {m : Nat} (hm : m ≤ 6) {zs : List Int} (h : ∀ z ∈ zs, 0 ≤ z ∧ z.toNat < 2 ^ m) (ps : List Int) :
    decide ((zs.map (callZ ps)).mergeSort leZ = zs.mergeSort leZ) = (keyL zs ps == keyL zs (nI (List.range m))) := by
  unfold keyL
  rw [own_map hm h, Bool.eq_iff_iff, decide_eq_true_eq, beq_iff_eq, List.append_left_inj]

def ownF (m : Nat) (zs : List Int) (k : Nat) : List (List Int) := (((lvlL m m).take k).filter fun p => keyL zs (nI p) == keyL zs (nI (List.range m))).map nI
theorem ownF_all (m : Nat) (zs : List Int) : ownF m zs (lvlL m m).length = (ownL m zs).map nI := by unfold ownF ownL; rw [List.take_length, lvlL_perms]
theorem ownF_yes {m k : Nat} {zs : List Int} (hk : k < (lvlL m m).length) (h : (keyL zs (nI (lvlL m m)[k]) == keyL zs (nI (List.range m))) = true) : ownF m zs (k + 1) = ownF m zs k ++ [nI (lvlL m m)[k]] := by
  unfold ownF
  rw [List.take_succ_eq_append_getElem hk, List.filter_append, List.map_append]
  simp [h]

theorem ownF_no {m k : Nat} {zs : List Int} (hk : k < (lvlL m m).length) (h : (keyL zs (nI (lvlL m m)[k]) == keyL zs (nI (List.range m))) = false) : ownF m zs (k + 1) = ownF m zs k := by
  unfold ownF
  rw [List.take_succ_eq_append_getElem hk, List.filter_append, List.map_append]
  have h' : ¬ (keyL zs (nI (lvlL m m)[k]) = keyL zs (nI (List.range m))) := by simpa using h
  simp [h']

theorem ownF_len (m : Nat) (zs : List Int) (hm : m ≤ 6) (k : Nat) : (ownF m zs k).length ≤ 46656 := by
  unfold ownF
  rw [List.length_map]
  refine Nat.le_trans (List.length_filter_le _ _) (Nat.le_trans ?_ (lvlL_small hm (Nat.le_refl m)))
  rw [List.length_take]; omega

theorem field_fam (x0 : Int) (a : Option Addr) (n c : Nat) (w : World) : (Instr.field 25 (.agg #[.int .i64 x0, .slice a n c]) 1).run Tryd.prog w = .ok (.slice a n c) w := by kernel_rfl
set_option maxRecDepth 100000 in
set_option maxHeartbeats 8000000 in
theorem specOwn_any (m : Nat) (hm : m ≤ 6) (a : Option Addr) (c : Nat) (zs : List Int) (w : World) (ha : Ints w w.heap.size a zs) (hf : famIn (m : Int) zs = true) :
    Calls Tryd.prog 34 #[.agg #[.int .i64 (m : Int), .slice a zs.length c]] w fun e w' => ∃ v, e = .returned v ∧ Rws w' w.heap.size v ((ownL m zs).map nI) ∧ Below w.heap.size w w' := by
  obtain ⟨hm1, hm6, hl8, hz4⟩ := famIn_out hf
  have hz : ∀ z ∈ zs, 0 ≤ z ∧ z.toNat < 2 ^ m := fun z hz => by
    have h1 := hz4 z hz
    have h3 : fullI (m : Int) = ((2 ^ m - 1 : Nat) : Int) := full_nat m
    have h4 : 1 ≤ 2 ^ m := Nat.one_le_two_pow
    omega
  have hb1 := below2 w (.cells #[.int .i64 (m : Int), .slice a zs.length c] 25) (.cells #[] 23)
  have q0 := alloc2_0 w (.cells #[.int .i64 (m : Int), .slice a zs.length c] 25) (.cells #[] 23)
  have q1 := alloc2_1 w (.cells #[.int .i64 (m : Int), .slice a zs.length c] 25) (.cells #[] 23)
  have hs1 : ((w.alloc (.cells #[.int .i64 (m : Int), .slice a zs.length c] 25)).alloc (.cells #[] 23)).heap.size = w.heap.size + 1 + 1 := by simp
  obtain ⟨w1, hw1⟩ : ∃ w1, (w.alloc (.cells #[.int .i64 (m : Int), .slice a zs.length c] 25)).alloc (.cells #[] 23) = w1 := ⟨_, rfl⟩
  rw [hw1] at hb1 q0 q1 hs1
  obtain ⟨n, hn⟩ : ∃ n, n = zs.length := ⟨_, rfl⟩
  have HN := Lib.hid hn
  have HA := Lib.hid ha
  have HF := Lib.hid hf
  have HZ := Lib.hid hz
  have HB1 := Lib.hid hb1
  have HS1 := Lib.hid hs1
  have HQ1 : Hid (HasBlk w1 (w.heap.size + 1) #[] 23) := Lib.hid q1
  rw [← hn] at hw1 q0 ⊢
  have HQ0 : Hid (HasBlk w1 w.heap.size #[.int .i64 (m : Int), .slice a n c] 25) := Lib.hid q0
  have x0 := (blk_cell q0 0).trans (cell2_0 _ _)
  have x1 := (blk_cell q0 1).trans (cell2_1 _ _)
  have hn8 : n ≤ 8 := by omega
  clear ha hf hz hz4 hb1 q0 q1 hs1 hn hl8
  go_enter Tryd.func34, Tryd.ntmps34
  go_wp2_with fail
  refine (perms_any m hm w1).mono ?_
  rintro e w2 ⟨pv, rfl, hRp, hb2⟩
  obtain ⟨pa, pc, rfl⟩ := hRp.form
  obtain ⟨N, hN⟩ : ∃ N, N = (lvlL m m).length := ⟨_, rfl⟩
  have hNs : N ≤ 46656 := by rw [hN]; exact lvlL_small hm (Nat.le_refl m)
  rw [List.length_map, ← hN]
  have q02 : HasBlk w2 w.heap.size #[.int .i64 (m : Int), .slice a n c] 25 := (hb2.block _ (by have := HS1.out; omega)).trans HQ0.out
  have y0 := (blk_cell q02 0).trans (cell2_0 _ _)
  have y1 := (blk_cell q02 1).trans (cell2_1 _ _)
  have hS := l2Sorted_any a c zs w2 ((HA.out.below (HB1.out.trans (hb2.mono HB1.out.size))).mono (by have := HB1.out.size; have := hb2.size; omega)) (by have := HN.out; omega)
  rw [← HN.out] at hS
  have HRP := Lib.hid hRp
  have HB2 := Lib.hid hb2
  have HNN := Lib.hid hN
  clear hRp hb2 hN q02 x0 x1 hw1
  go_wp2_with fail
  refine hS.mono ?_
  rintro e w3 ⟨la, lc, rfl, hol, hb3⟩
  obtain ⟨ga, hga⟩ : ∃ ga : Nat, ga = (pa.map Addr.block).getD 0 := ⟨_, rfl⟩
  have hs2 : w.heap.size + 1 + 1 ≤ w2.heap.size := by have := HB2.out.size; have := HS1.out; omega
  have hgaw : ga ≠ w.heap.size + 1 ∧ ga < w3.heap.size := by
    obtain ⟨vals, h1, -⟩ := HRP.out
    have := hb3.size
    cases pa with
    | none => rw [hga]; simp only [Option.map, Option.getD]; omega
    | some x =>
      rw [hga]
      simp only [Option.map, Option.getD]
      obtain ⟨h2, h3⟩ := World.ownsRow.lt h1 x.block rfl
      have := HS1.out
      omega
  have HST : Hid (Rws w3 (w.heap.size + 1) (.slice (some ⟨w.heap.size + 1, 0, none⟩) 0 0) (ownF m zs 0)) := Lib.hid (by
    have q3 : w3.heap[w.heap.size + 1]? = some (.cells #[] 23 (0, 0)) := (hb3.block _ (by omega)).trans ((HB2.out.block _ (by have := HS1.out; omega)).trans HQ1.out)
    have := rws_nil w3 (w.heap.size + 1) q3 (Nat.le_refl _)
    simpa [ownF] using this)
  have HRP3 : Hid (Rws w3 (w.heap.size + 1) (.slice pa N pc) ((lvlL m m).map nI)) := Lib.hid (by
    have := (HRP.out.below hb3).base (B' := w.heap.size + 1) (by have := HS1.out; omega)
    rwa [List.length_map, ← HNN.out] at this)
  have HOL : Hid (OwnN w3 (w.heap.size + 1) la n lc (zs.mergeSort leZ)) := Lib.hid (by
    exact hol.base (B' := w.heap.size + 1) (by omega))
  have HB3 : Hid (Below (w.heap.size + 1) w1 w3) := Lib.hid ((HB2.out.mono (by have := HS1.out; omega)).trans (hb3.mono (by omega)))
  have HGA := Lib.hid hga
  have HGW := Lib.hid hgaw
  have HOK : Hid (∀ k, k < N → Okp m (nI ((lvlL m m)[k]?.getD []))) := Lib.hid (fun k hk => by
    have hk' : k < (lvlL m m).length := by have := HNN.out; omega
    rw [List.getElem?_eq_getElem hk', Option.getD_some]
    exact okp_nI hm (lvlL_in (List.getElem_mem hk')) (lvlL_lt (List.getElem_mem hk')))
  have hsW : w.heap.size + 1 + 1 ≤ w3.heap.size := by have := hb3.size; omega
  clear hol hb3 hga hgaw hS y0 y1
  go_wp2
  go_loopw [3, 6] (fun o i wr => ∃ (k : Nat) (ov : Value), k ≤ N ∧ i = .int .i64 (k : Int) ∧ ov = o ∧ Rws wr (w.heap.size + 1) ov (ownF m zs k) ∧ ov.ownBlock ≠ some ga ∧ Rws wr (w.heap.size + 1) (.slice pa N pc) ((lvlL m m).map nI) ∧ OwnN wr (w.heap.size + 1) la n lc (zs.mergeSort leZ) ∧ ga < wr.heap.size ∧ Below (w.heap.size + 1) w1 wr) (fun _ i _ => N - (intOf i).toNat)
  case atStart => exact ⟨0, _, Nat.zero_le _, rfl, rfl, HST.out, by simp [Value.ownBlock]; exact fun e => HGW.out.1 e.symm, HRP3.out, HOL.out, HGW.out.2, HB3.out⟩
  case round =>
    obtain ⟨k, ov, hk, rfl, rfl, hO, hne, hRa, hLi, hgl, hB⟩ := hrel
    by_cases hlt : k < N
    · have hkl : k < (lvlL m m).length := by have := HNN.out; omega
      obtain ⟨p, hp⟩ : ∃ p, p = (lvlL m m)[k] := ⟨_, rfl⟩
      have hpl : p.length = m := by rw [hp]; exact lvlL_in (List.getElem_mem hkl)
      have hok : Okp m (nI p) := by have := HOK.out k hlt; rwa [List.getElem?_eq_getElem hkl, Option.getD_some, ← hp] at this
      have e2 : ((lvlL m m).map nI)[k]?.getD [] = nI p := by rw [List.getElem?_map, List.getElem?_eq_getElem hkl, ← hp]; rfl
      obtain ⟨g, pa', pc', rfl, hcr, hor⟩ := hRa.at_ (i := k) (by rw [List.length_map]; exact hkl)
      rw [e2, nI_len, hpl] at hcr hor
      have hgg : g = ga := by have := HGA.out; simpa using this.symm
      subst hgg
      have hpm : (nI p).length = m := by rw [nI_len, hpl]
      obtain ⟨pb, hpb⟩ : ∃ pb, pb = (keyL zs (nI p) == keyL zs (nI (List.range m))) := ⟨_, rfl⟩
      have HPD : Hid (decide ((zs.map (callZ (nI p))).mergeSort leZ = zs.mergeSort leZ) = pb) := Lib.hid (by rw [hpb]; exact own_pred hm HZ.out (nI p))
      have HNX : Hid (ownF m zs (k + 1) = if pb then ownF m zs k ++ [nI p] else ownF m zs k) := Lib.hid (by
        rw [hpb, hp]
        cases h : (keyL zs (nI (lvlL m m)[k]) == keyL zs (nI (List.range m)))
        · rw [if_neg (by decide)]; exact ownF_no hkl h
        · rw [if_pos rfl]; exact ownF_yes hkl h)
      obtain ⟨wo, hwo⟩ : ∃ wo, wo = wr := ⟨wr, rfl⟩
      subst hwo
      have hBw : Below w.heap.size w wo := HB1.out.trans (hB.mono (by omega))
      have q0 : HasBlk wo w.heap.size #[.int .i64 (m : Int), .slice a n c] 25 := (hB.block _ (by omega)).trans HQ0.out
      have hsz : w.heap.size + 1 + 1 ≤ wo.heap.size := by have := hB.size; have := HS1.out; omega
      have x0 := (blk_cell q0 0).trans (cell2_0 _ _)
      have x1 := (blk_cell q0 1).trans (cell2_1 _ _)
      have HKE : Hid (∀ w', Below wo.heap.size wo w' → w'.cell? ⟨w.heap.size, 0, none⟩ = some (.int .i64 (m : Int)) ∧ w'.cell? ⟨w.heap.size, 1, none⟩ = some (.slice a n c) ∧ w'.cell? ⟨g, k, none⟩ = some (.slice pa' m pc') ∧ Below wo.heap.size wo w') := Lib.hid (fun w' h => ⟨(h.cell (p := ⟨w.heap.size, 0, none⟩) (show w.heap.size < wo.heap.size by omega)).trans x0, (h.cell (p := ⟨w.heap.size, 1, none⟩) (show w.heap.size < wo.heap.size by omega)).trans x1, (h.cell (p := ⟨g, k, none⟩) hgl).trans hcr, h⟩)
      have hDr : Below wo.heap.size wo wo.drew := (Below.refl _ wo).drew
      have hL1 := l1Named_any m a pa' c pc' zs (nI p) wo.drew ((HA.out.below hBw).mono (show w.heap.size ≤ wo.heap.size by omega)) (own_ints (show OwnI wo (w.heap.size + 1) (.slice pa' (nI p).length pc') (nI p) from by rw [hpm]; unfold OwnI; rw [hpm]; exact hor)) HF.out hok
      rw [hpm, ← HN.out] at hL1
      have HSO9 : Hid (∀ w9 a9 c9, OwnI w9 wo.drew.heap.size (.slice a9 (zs.map (callZ (nI p))).length c9) (zs.map (callZ (nI p))) → Calls Tryd.prog 47 #[.slice a9 n c9] w9 fun e w' => ∃ a' c', e = .returned (.slice a' n c') ∧ OwnN w' w9.heap.size a' n c' ((zs.map (callZ (nI p))).mergeSort leZ) ∧ Below w9.heap.size w9 w') := Lib.hid (fun w9 a9 c9 h => by
        have h9 := l2Sorted_any a9 c9 (zs.map (callZ (nI p))) w9 (own_ints h) (by rw [List.length_map]; have := HN.out; omega)
        rwa [List.length_map, ← HN.out] at h9)
      have HEQ : Hid (∀ w10 B a10 c10, OwnN w10 B a10 n c10 ((zs.map (callZ (nI p))).mergeSort leZ) → OwnN w10 (w.heap.size + 1) la n lc (zs.mergeSort leZ) → Calls Tryd.prog 27 #[.slice a10 n c10, .slice la n lc] w10 fun e w' => e = .returned (.bool pb) ∧ Below w10.heap.size w10 w') := Lib.hid (fun w10 B a10 c10 h h' => by
        have l1 : ((zs.map (callZ (nI p))).mergeSort leZ).length = n := by rw [List.length_mergeSort, List.length_map]; exact HN.out.symm
        have l2 : (zs.mergeSort leZ).length = n := by rw [List.length_mergeSort]; exact HN.out.symm
        have h9 := equal_any a10 la c10 lc ((zs.map (callZ (nI p))).mergeSort leZ) (zs.mergeSort leZ) w10 (own_ints (show OwnI w10 B (.slice a10 ((zs.map (callZ (nI p))).mergeSort leZ).length c10) _ from by unfold OwnI; rw [l1]; exact h)) (own_ints (show OwnI w10 (w.heap.size + 1) (.slice la (zs.mergeSort leZ).length lc) _ from by unfold OwnI; rw [l2]; exact h')) (by omega) (by omega)
        rwa [l1, l2, HPD.out] at h9)
      have HLI := Lib.hid hLi
      have HOV := Lib.hid hO
      have HNE := Lib.hid hne
      have HRA := Lib.hid hRa
      have HOR := Lib.hid hor
      have HBO := Lib.hid hB
      have HHN := HN
      have hkI : (k : Int) < (N : Int) := by omega
      have hk0 : (0 : Int) ≤ (k : Int) := by omega
      have hpm := Lib.hid hpm
      clear hp hok e2 hpb hBw q0 hO hne hRa hor hB hLi hkl
      have hff := field_fam
      go_wp2
      go_region_held3 (fun w' => w'.cell? ⟨w.heap.size, 0, none⟩ = some (.int .i64 (m : Int)) ∧ w'.cell? ⟨w.heap.size, 1, none⟩ = some (.slice a n c) ∧ w'.cell? ⟨g, k, none⟩ = some (.slice pa' m pc') ∧ Below wo.heap.size wo w')
        (first
          | exact HKE.out _ hDr
          | exact HKE.out _ (hDr.trans hb9)
          | exact HKE.out _ ((hDr.trans hb9).trans (hb10.mono hb9.size))
          | exact HKE.out _ (((hDr.trans hb9).trans (hb10.mono hb9.size)).trans (hb11.mono (Nat.le_trans hb9.size hb10.size))))
        (first
          | (go_at_call 37; refine hL1.mono ?_; rintro e w9 ⟨a9, c9, rfl, ho9, hb9⟩; rw [List.length_map, ← HHN.out])
          | (go_at_call 47; refine (HSO9.out w9 a9 c9 ho9).mono ?_; rintro e w10 ⟨a10, c10, rfl, ho10, hb10⟩)
          | (go_at_call 27; refine (HEQ.out w10 _ a10 c10 ho10 ((HLI.out.below (hDr.trans hb9)).below (hb10.mono (Nat.le_refl _)))).mono ?_; rintro e w11 ⟨rfl, hb11⟩))
      rename_i hHeld
      obtain ⟨-, -, z2, hbw⟩ := hHeld
      have HBw := Lib.hid hbw
      have hszw : wo.heap.size ≤ w11.heap.size := hbw.size
      have HOVh : Hid (Rws w11 (w.heap.size + 1) ov (ownF m zs k)) := Lib.hid (HOV.out.below hbw)
      have HRAh : Hid (Rws w11 (w.heap.size + 1) (.slice (some ⟨g, 0, none⟩) N pc) ((lvlL m m).map nI)) := Lib.hid (HRA.out.below hbw)
      have HLIh : Hid (OwnN w11 (w.heap.size + 1) la n lc (zs.mergeSort leZ)) := Lib.hid (HLI.out.below hbw)
      have HORh : Hid (OwnN w11 (w.heap.size + 1) pa' m pc' (nI p)) := Lib.hid (HOR.out.below hbw)
      have HBh : Hid (Below (w.heap.size + 1) w1 w11) := Lib.hid (HBO.out.trans (hbw.mono (by omega)))
      have hglh : g < w11.heap.size := by omega
      clear hbw hL1 HSO9 HEQ HKE hDr x0 x1 hcr hff ho9 hb9 ho10 hb10 hb11
      cases pb
      · go_wp2
        go_roundw
        case rel => exact ⟨k + 1, ov, by omega, by go_num, rfl, by rw [HNX.out]; exact HOVh.out, HNE.out, HRAh.out, HLIh.out, hglh, HBh.out⟩
        case measure => simp [intOf]; omega
      · obtain ⟨a5, c5, w5, hr5, hRf, hnf, hgr, ⟨n', xs', hov⟩, hBf⟩ := app_row (k := m) (l := nI p) HOVh.out (by omega) (by have := ownF_len m zs hm k; omega) pa' pc' hpm.out HORh.out g hglh HNE.out
        obtain ⟨T, hT⟩ : ∃ T, T = (ownF m zs k).length + 1 := ⟨_, rfl⟩
        rw [← hT] at hr5 hRf hnf
        have HFIN : Hid (Rws w5 (w.heap.size + 1) (.slice a5 T c5) (ownF m zs (k + 1))) := Lib.hid (by rw [HNX.out, if_pos rfl]; exact hRf)
        have HNF := Lib.hid hnf
        have HRA5 : Hid (Rws w5 (w.heap.size + 1) (.slice (some ⟨g, 0, none⟩) N pc) ((lvlL m m).map nI)) := Lib.hid ((HRAh.out.alloc _).kept hgr rfl hov (Or.inr (fun e => HNE.out e.symm)))
        have HLI5 : Hid (OwnN w5 (w.heap.size + 1) la n lc (zs.mergeSort leZ)) := Lib.hid (by
          have h := World.ownsRow.alloc HLIh.out (.cells #[.slice pa' m pc'] 23)
          exact h.kept hgr (type_ne h hov (by decide)))
        have HB5 : Hid (Below (w.heap.size + 1) w1 w5) := Lib.hid (HBh.out.trans hBf)
        have hg5 : g < w5.heap.size := by have := hBf.size; omega
        clear hRf hnf hgr hov hBf hT
        go_wp2_with (at_builtin; refine wpList_append_eq _ rfl _ _ 68 68 rfl _ _ rfl rfl hr5 ?_)
        go_roundw
        case rel => exact ⟨k + 1, _, by omega, by go_num, rfl, HFIN.out, HNF.out, HRA5.out, HLI5.out, hg5, HB5.out⟩
        case measure => simp [intOf]; omega
    · obtain rfl : k = N := by omega
      have HF : Hid (Rws wr (w.heap.size + 1) ov ((ownL m zs).map nI)) := Lib.hid (by rw [← ownF_all, ← HNN.out]; exact hO)
      have HBF : Hid (Below w.heap.size w wr) := Lib.hid (HB1.out.trans (hB.mono (by omega)))
      clear hO hne hRa hLi hB
      go_wp2
      go_ret
      exact ⟨_, rfl, HF.out.base (by omega), HBF.out⟩

end Go.Proofs.YtijpgbkjgjpmmaaDoor
