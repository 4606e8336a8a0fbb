/- It is proved that some family has given sizes and degrees just where the degrees' greatest ones find room in the sizes, and the sums are the same; conditions: those of each statement. -/
import Derived.RowKit
import Derived.Laws.CopyRow
import Derived.Lib.SlBuf
import Derived.Deep.QuietTactic
import Derived.RangeFuncNested
import Derived.RangeFuncBound
import Derived.RangeFuncCalls
import Derived.RangeFuncLeaves
import Derived.RangeFuncBox
import Derived.RangeFuncWrites
import Derived.StillTailTactics
import Derived.Maps.OwnIn
import Derived.Maps.Ext
import Derived.DeepKeys4
import Derived.MapKept
import Derived.Test.YtbiggilheicfjaaDoorRows
import Derived.WalkKit
import Derived.WalkSpells
import Derived.ProofKit
import Derived.OpenShut
import Derived.ShutString
import Derived.ChangeOld
import Derived.Below
import Derived.Deep.RegionHeld3
import Derived.BigQuiet
import Derived.Lib.Hide
import Derived.Lib.SmallJoins
import Derived.Outline
import Derived.Laws.MakeOwn
import Derived.Laws.OwnMore
import Derived.IntWalk
import Derived.Maps.AppendAt
import Derived.Sort.QuietIn
import Derived.Lib.AppendZeros
import Derived.Deep.AppendLies
import Derived.OwnWalk
import Derived.Lib.SlicesCompact
import Derived.Lib.OwnBridge
import Derived.OrdersIn
import Derived.TacticsIn
import Derived.Shelf.Sort.Plain
import Derived.Shelf.Slices.In.SortNone
import Derived.Shelf.Slices.CompactI
import Derived.Ground.Names2Prog
import Derived.Shelf.Abstract
import Derived.Shelf.RegionOpen
import Derived.OwnWalkIn
import Derived.TacticsInMore
import Derived.LoopNIn
import Derived.LoopIn
import Derived.StillTail
import Derived.StillTactics
import Derived.Shelf.Spec.TrailingZeros
import Derived.Test.YtbiggilheicfjaaDoorMva
import Derived.Test.YtbiggilheicfjaaDoorEc
import Derived.Test.YtbiggilheicfjaaDoorEk
import Derived.Test.YtbiggilheicfjaaDoorEl
import Derived.Test.YtbiggilheicfjaaDoorEw
import Derived.Test.YtbiggilheicfjaaDoorEz
import Derived.Test.YtbiggilheicfjaaDoorZa
namespace Go.Proofs.YtbiggilheicfjaaDoor
open Go.RowKit Go.Shelf

theorem sum_perm {xs ys : List Int} (h : xs.Perm ys) : xs.sum = ys.sum := by
  induction h with
  | nil => rfl
  | cons x _ ih => simp only [List.sum_cons, ih]
  | swap x y l => simp only [List.sum_cons]; omega
  | trans _ _ ih1 ih2 => exact ih1.trans ih2

theorem desc_perm (zs : List Int) : (descL zs).Perm zs := (List.reverse_perm _).trans (List.mergeSort_perm zs leZ)
theorem desc_down (zs : List Int) : (descL zs).Pairwise fun x y => y ≤ x := by
  rw [descL, List.pairwise_reverse]
  have h := List.pairwise_mergeSort (le := leZ) (by intro a b c h1 h2; simp [leZ] at h1 h2 ⊢; omega) (by intro a b; simp [leZ]; omega) zs
  exact h.imp (fun h => by simpa [leZ] using h)

/-- What holds of the number and the sum of each choice of a list's elements. -/
def allSub : List Int → (Nat → Int → Prop) → Prop
  | [], P => P 0 0
  | x :: xs, P => allSub xs P ∧ allSub xs fun k t => P (k + 1) (x + t)

theorem sub_all : ∀ (X : List Int) (P : Nat → Int → Prop) (A B : List Int), allSub X P → (A ++ B).Perm X → P A.length A.sum
  | [], P, A, B, h, hp => by
    have h0 := hp.length_eq
    rw [List.length_append, List.length_nil] at h0
    obtain rfl : A = [] := List.eq_nil_of_length_eq_zero (by omega)
    exact h
  | x :: X, P, A, B, h, hp => by
    have hx : x ∈ A ++ B := hp.symm.subset (by simp)
    by_cases hA : x ∈ A
    · have h1 := List.perm_cons_erase hA
      have h2 : (x :: (A.erase x ++ B)).Perm (x :: X) := by
        refine List.Perm.trans ?_ hp
        rw [← List.cons_append]
        exact h1.symm.append_right B
      have h3 := sub_all X _ (A.erase x) B h.2 (List.Perm.cons_inv h2)
      rw [sum_perm h1, h1.length_eq, List.sum_cons, List.length_cons]
      exact h3
    · have hB : x ∈ B := by
        rcases List.mem_append.1 hx with hh | hh
        · exact absurd hh hA
        · exact hh
      have h1 := List.perm_cons_erase hB
      have h2 : (x :: (A ++ B.erase x)).Perm (x :: X) := by
        refine List.Perm.trans ?_ hp
        exact List.perm_middle.symm.trans (h1.symm.append_left A)
      exact sub_all X _ A (B.erase x) h.1 (List.Perm.cons_inv h2)

theorem room_at0 : ∀ {ss : List Int}, (∀ s ∈ ss, 0 ≤ s ∧ s ≤ 5) → roomZ ss 0 = 0
  | [], _ => rfl
  | s :: ss, h => by
    have h1 := h s (by simp)
    have h2 := room_at0 (ss := ss) (fun y hy => h y (by simp [hy]))
    simp only [roomZ, List.map_cons, List.sum_cons] at *
    omega

theorem room_five : ∀ {ss : List Int}, (∀ s ∈ ss, 0 ≤ s ∧ s ≤ 5) → roomZ ss 5 = ss.sum
  | [], _ => rfl
  | s :: ss, h => by
    have h1 := h s (by simp)
    have h2 := room_five (ss := ss) (fun y hy => h y (by simp [hy]))
    simp only [roomZ, List.map_cons, List.sum_cons] at *
    omega

theorem room_mono (k : Int) : ∀ (ss : List Int), roomZ ss k ≤ roomZ ss (k + 1)
  | [] => by simp [roomZ]
  | s :: ss => by
    have h2 := room_mono k ss
    simp only [roomZ, List.map_cons, List.sum_cons] at *
    omega

theorem room_bend (k : Int) : ∀ (ss : List Int), roomZ ss k + roomZ ss (k + 2) ≤ 2 * roomZ ss (k + 1)
  | [] => by simp [roomZ]
  | s :: ss => by
    have h2 := room_bend k ss
    simp only [roomZ, List.map_cons, List.sum_cons] at *
    omega

theorem room_cons (s : Int) (ss : List Int) (k : Int) : roomZ (s :: ss) k = min k s + roomZ ss k := by simp [roomZ]
theorem cnt_pos {z : Int} {ss left : List Int} {s : Nat} (hs : s < 2 ^ left.length) (h : takeB z left s = true) (hp : 0 < cntL ss (takeN left s)) : 0 < cntL (z :: ss) left := by
  rw [cntL_cons]
  have : ∀ n, s < n → 0 < sumR n fun s => if takeB z left s then cntL ss (takeN left s) else 0 := by
    intro n
    induction n with
    | zero => intro h; omega
    | succ n ih =>
      intro hn
      rw [sumR_succ]
      by_cases e : s = n
      · subst e
        rw [if_pos h]; omega
      · have := ih (by omega)
        omega
  exact this _ hs

theorem cnt_some {z : Int} {ss left : List Int} (h : 0 < cntL (z :: ss) left) : ∃ s, s < 2 ^ left.length ∧ takeB z left s = true ∧ 0 < cntL ss (takeN left s) := by
  rw [cntL_cons] at h
  have : ∀ n, (0 < sumR n fun s => if takeB z left s then cntL ss (takeN left s) else 0) → ∃ s, s < n ∧ takeB z left s = true ∧ 0 < cntL ss (takeN left s) := by
    intro n
    induction n with
    | zero => intro h; rw [sumR_zero] at h; omega
    | succ n ih =>
      intro hn
      rw [sumR_succ] at hn
      by_cases e : takeB z left n = true ∧ 0 < cntL ss (takeN left n)
      · exact ⟨n, by omega, e⟩
      · have e0 : (if takeB z left n then cntL ss (takeN left n) else 0) = 0 := by
          split
          · rename_i h1
            have : ¬ 0 < cntL ss (takeN left n) := fun h => e ⟨h1, h⟩
            omega
          · rfl
        obtain ⟨s, h1, h2⟩ := ih (by omega)
        exact ⟨s, by omega, h2⟩
  exact this _ h

/-- One club taken off five degrees in order. -/
theorem gr_step (s : Int) (y1 y2 y3 y4 y5 : Int) (R : Nat → Int) (h0 : 0 ≤ s) (h5 : s ≤ 5) (d1 : y2 ≤ y1) (d2 : y3 ≤ y2) (d3 : y4 ≤ y3) (d4 : y5 ≤ y4) (d5 : 0 ≤ y5)
    (r0 : R 0 = 0) (m : R 4 ≤ R 5) (c0 : R 0 + R 2 ≤ 2 * R 1) (c1 : R 1 + R 3 ≤ 2 * R 2) (c2 : R 2 + R 4 ≤ 2 * R 3) (c3 : R 3 + R 5 ≤ 2 * R 4)
    (p1 : y1 ≤ min 1 s + R 1) (p2 : y1 + y2 ≤ min 2 s + R 2) (p3 : y1 + y2 + y3 ≤ min 3 s + R 3) (p4 : y1 + y2 + y3 + y4 ≤ min 4 s + R 4) (p5 : y1 + y2 + y3 + y4 + y5 = s + R 5) :
    ∃ r, r < 32 ∧ takeB s [y1, y2, y3, y4, y5] r = true ∧ allSub (takeN [y1, y2, y3, y4, y5] r) (fun k t => t ≤ R k) ∧ (takeN [y1, y2, y3, y4, y5] r).sum = R 5 ∧ ∀ z ∈ takeN [y1, y2, y3, y4, y5] r, 0 ≤ z := by
  have hT : ∀ r : Nat, takeN [y1, y2, y3, y4, y5] r = [y1 - bitI r 0, y2 - bitI r 1, y3 - bitI r 2, y4 - bitI r 3, y5 - bitI r 4] := fun r => rfl
  have hB : ∀ r : Nat, pop (r : Int) = s → 0 ≤ y1 - bitI r 0 → 0 ≤ y2 - bitI r 1 → 0 ≤ y3 - bitI r 2 → 0 ≤ y4 - bitI r 3 → 0 ≤ y5 - bitI r 4 → takeB s [y1, y2, y3, y4, y5] r = true := by
    intro r e a1 a2 a3 a4 a5
    refine takeB_iff.2 ⟨e, fun v hv => ?_⟩
    obtain rfl | rfl | rfl | rfl | rfl : v = 0 ∨ v = 1 ∨ v = 2 ∨ v = 3 ∨ v = 4 := by simp at hv; omega
    all_goals assumption
  have fin : ∀ (r : Nat) (b0 b1 b2 b3 b4 : Int), bitI r 0 = b0 → bitI r 1 = b1 → bitI r 2 = b2 → bitI r 3 = b3 → bitI r 4 = b4 → r < 32 → pop (r : Int) = s →
      (0 ≤ y1 - b0 ∧ 0 ≤ y2 - b1 ∧ 0 ≤ y3 - b2 ∧ 0 ≤ y4 - b3 ∧ 0 ≤ y5 - b4) → allSub [y1 - b0, y2 - b1, y3 - b2, y4 - b3, y5 - b4] (fun k t => t ≤ R k) → b0 + b1 + b2 + b3 + b4 = s →
      ∃ r, r < 32 ∧ takeB s [y1, y2, y3, y4, y5] r = true ∧ allSub (takeN [y1, y2, y3, y4, y5] r) (fun k t => t ≤ R k) ∧ (takeN [y1, y2, y3, y4, y5] r).sum = R 5 ∧ ∀ z ∈ takeN [y1, y2, y3, y4, y5] r, 0 ≤ z := by
    rintro r b0 b1 b2 b3 b4 rfl rfl rfl rfl rfl hr hp ⟨a1, a2, a3, a4, a5⟩ hs hb
    refine ⟨r, hr, hB r hp a1 a2 a3 a4 a5, by rw [hT]; exact hs, by rw [hT]; simp only [List.sum_cons, List.sum_nil]; omega, ?_⟩
    rw [hT]
    intro z hz
    simp only [List.mem_cons, List.not_mem_nil, or_false] at hz
    rcases hz with rfl | rfl | rfl | rfl | rfl <;> assumption
  obtain rfl | rfl | rfl | rfl | rfl | rfl : s = 0 ∨ s = 1 ∨ s = 2 ∨ s = 3 ∨ s = 4 ∨ s = 5 := by omega
  · refine fin 0 0 0 0 0 0 (by decide) (by decide) (by decide) (by decide) (by decide) (by decide) (by decide +kernel) (by omega) ?_ (by decide)
    simp only [allSub, Nat.zero_add, Nat.reduceAdd]
    refine ⟨⟨⟨⟨⟨?_, ?_⟩, ?_, ?_⟩, ⟨?_, ?_⟩, ?_, ?_⟩, ⟨⟨?_, ?_⟩, ?_, ?_⟩, ⟨?_, ?_⟩, ?_, ?_⟩, ⟨⟨⟨?_, ?_⟩, ?_, ?_⟩, ⟨?_, ?_⟩, ?_, ?_⟩, ⟨⟨?_, ?_⟩, ?_, ?_⟩, ⟨?_, ?_⟩, ?_, ?_⟩ <;> omega
  · refine fin 1 1 0 0 0 0 (by decide) (by decide) (by decide) (by decide) (by decide) (by decide) (by decide +kernel) (by omega) ?_ (by decide)
    simp only [allSub, Nat.zero_add, Nat.reduceAdd]
    refine ⟨⟨⟨⟨⟨?_, ?_⟩, ?_, ?_⟩, ⟨?_, ?_⟩, ?_, ?_⟩, ⟨⟨?_, ?_⟩, ?_, ?_⟩, ⟨?_, ?_⟩, ?_, ?_⟩, ⟨⟨⟨?_, ?_⟩, ?_, ?_⟩, ⟨?_, ?_⟩, ?_, ?_⟩, ⟨⟨?_, ?_⟩, ?_, ?_⟩, ⟨?_, ?_⟩, ?_, ?_⟩ <;> omega
  · refine fin 3 1 1 0 0 0 (by decide) (by decide) (by decide) (by decide) (by decide) (by decide) (by decide +kernel) (by omega) ?_ (by decide)
    simp only [allSub, Nat.zero_add, Nat.reduceAdd]
    refine ⟨⟨⟨⟨⟨?_, ?_⟩, ?_, ?_⟩, ⟨?_, ?_⟩, ?_, ?_⟩, ⟨⟨?_, ?_⟩, ?_, ?_⟩, ⟨?_, ?_⟩, ?_, ?_⟩, ⟨⟨⟨?_, ?_⟩, ?_, ?_⟩, ⟨?_, ?_⟩, ?_, ?_⟩, ⟨⟨?_, ?_⟩, ?_, ?_⟩, ⟨?_, ?_⟩, ?_, ?_⟩ <;> omega
  · refine fin 7 1 1 1 0 0 (by decide) (by decide) (by decide) (by decide) (by decide) (by decide) (by decide +kernel) (by omega) ?_ (by decide)
    simp only [allSub, Nat.zero_add, Nat.reduceAdd]
    refine ⟨⟨⟨⟨⟨?_, ?_⟩, ?_, ?_⟩, ⟨?_, ?_⟩, ?_, ?_⟩, ⟨⟨?_, ?_⟩, ?_, ?_⟩, ⟨?_, ?_⟩, ?_, ?_⟩, ⟨⟨⟨?_, ?_⟩, ?_, ?_⟩, ⟨?_, ?_⟩, ?_, ?_⟩, ⟨⟨?_, ?_⟩, ?_, ?_⟩, ⟨?_, ?_⟩, ?_, ?_⟩ <;> omega
  · refine fin 15 1 1 1 1 0 (by decide) (by decide) (by decide) (by decide) (by decide) (by decide) (by decide +kernel) (by omega) ?_ (by decide)
    simp only [allSub, Nat.zero_add, Nat.reduceAdd]
    refine ⟨⟨⟨⟨⟨?_, ?_⟩, ?_, ?_⟩, ⟨?_, ?_⟩, ?_, ?_⟩, ⟨⟨?_, ?_⟩, ?_, ?_⟩, ⟨?_, ?_⟩, ?_, ?_⟩, ⟨⟨⟨?_, ?_⟩, ?_, ?_⟩, ⟨?_, ?_⟩, ?_, ?_⟩, ⟨⟨?_, ?_⟩, ?_, ?_⟩, ⟨?_, ?_⟩, ?_, ?_⟩ <;> omega
  · refine fin 31 1 1 1 1 1 (by decide) (by decide) (by decide) (by decide) (by decide) (by decide) (by decide +kernel) (by omega) ?_ (by decide)
    simp only [allSub, Nat.zero_add, Nat.reduceAdd]
    refine ⟨⟨⟨⟨⟨?_, ?_⟩, ?_, ?_⟩, ⟨?_, ?_⟩, ?_, ?_⟩, ⟨⟨?_, ?_⟩, ?_, ?_⟩, ⟨?_, ?_⟩, ?_, ?_⟩, ⟨⟨⟨?_, ?_⟩, ?_, ?_⟩, ⟨?_, ?_⟩, ?_, ?_⟩, ⟨⟨?_, ?_⟩, ?_, ?_⟩, ⟨?_, ?_⟩, ?_, ?_⟩ <;> omega

theorem list5 {X : List Int} (h : X.length = 5) : ∃ a b c d e, X = [a, b, c, d, e] := by
  match X, h with
  | [a, b, c, d, e], _ => exact ⟨a, b, c, d, e, rfl⟩

/-- Degrees that fall, five of them, and sizes that leave room for each few of them: some family has them. -/
theorem gr_some : ∀ (ss : List Int), ss.length ≤ 5 → (∀ s ∈ ss, 0 ≤ s ∧ s ≤ 5) → ∀ Y : List Int, Y.length = 5 → (∀ y ∈ Y, 0 ≤ y) → (Y.Pairwise fun x y => y ≤ x) → (∀ j : Nat, j ≤ 5 → preZ Y j ≤ roomZ ss (j : Int)) → Y.sum = roomZ ss 5 → 0 < cntL ss Y
  | [], _, _, Y, hY, h0, _, _, ht => by
    obtain ⟨a, b, c, d, e, rfl⟩ := list5 hY
    have := h0 a (by simp)
    have := h0 b (by simp)
    have := h0 c (by simp)
    have := h0 d (by simp)
    have := h0 e (by simp)
    simp only [roomZ, List.map_nil, List.sum_nil, List.sum_cons] at ht
    obtain rfl : a = 0 := by omega
    obtain rfl : b = 0 := by omega
    obtain rfl : c = 0 := by omega
    obtain rfl : d = 0 := by omega
    obtain rfl : e = 0 := by omega
    simp [cntL]
  | s :: ss, hl, hs, Y, hY, h0, hd, hp, ht => by
    have hs' : ∀ x ∈ ss, 0 ≤ x ∧ x ≤ 5 := fun x hx => hs x (by simp [hx])
    have hl' : ss.length ≤ 5 := by simp at hl; omega
    have h1 := hs s (by simp)
    obtain ⟨a, b, c, d, e, rfl⟩ := list5 hY
    simp only [List.pairwise_cons, List.mem_cons, List.not_mem_nil, or_false] at hd
    have q0 := room_at0 hs'
    have m4 := room_mono 4 ss
    have c0 := room_bend 0 ss
    have c1 := room_bend 1 ss
    have c2 := room_bend 2 ss
    have c3 := room_bend 3 ss
    have p1 := hp 1 (by omega)
    have p2 := hp 2 (by omega)
    have p3 := hp 3 (by omega)
    have p4 := hp 4 (by omega)
    rw [room_cons] at p1 p2 p3 p4 ht
    simp only [preZ, List.take_succ_cons, List.take_zero, List.sum_cons, List.sum_nil] at p1 p2 p3 p4 ht
    have z5 := h0 e (by simp)
    obtain ⟨r, hr, hB, hA, hS, hN⟩ := gr_step s a b c d e (fun k => roomZ ss (k : Int)) h1.1 h1.2 (hd.1 b (by simp)) (hd.2.1 c (by simp)) (hd.2.2.1 d (by simp)) (hd.2.2.2.1 e rfl) z5
      q0 m4 c0 c1 c2 c3 (by simpa using p1) (by have := p2; simp at this ⊢; omega) (by have := p3; simp at this ⊢; omega) (by have := p4; simp at this ⊢; omega) (by have := ht; simp at this ⊢; omega)
    refine cnt_pos (by simpa using hr) hB ?_
    have hp' := desc_perm (takeN [a, b, c, d, e] r)
    have hn : (takeN [a, b, c, d, e] r).length = 5 := takeN_len _ _
    rw [cnt_perm2 (List.Perm.refl ss) hp'.symm hl' (by omega)]
    refine gr_some ss hl' hs' _ (by rw [desc_len]; exact hn) (fun y hy => hN y (desc_mem hy)) (desc_down _) (fun j hj => ?_) (by rw [sum_perm hp']; exact hS)
    have hc := sub_all _ _ ((descL (takeN [a, b, c, d, e] r)).take j) ((descL (takeN [a, b, c, d, e] r)).drop j) hA (by rw [List.take_append_drop]; exact hp')
    rw [List.length_take, desc_len, hn, Nat.min_eq_left hj] at hc
    exact hc

/-- A member in no club. -/
theorem cnt_pad0 {ss ds : List Int} (hs : ss.length ≤ 5) (hd : ds.length ≤ 5) (h0 : ∀ s ∈ ss, 0 ≤ s) : cntL ss (0 :: ds) = cntL ss ds := by
  rw [cnt_col ss 0 ds hs hd]
  have p : pop ((0 : Nat) : Int) = 0 := by decide +kernel
  have e : takeN ss 0 = ss := ext_at (takeN_len _ _) (fun v hv => by rw [takeN_len] at hv; rw [takeN_at _ _ _ hv]; simp [bitI])
  have q := pow_32 hs
  have hz : ∀ c : Fin 32, pop (c.val : Int) = 0 → c.val = 0 := by decide +kernel
  rw [sumR, sum_one _ 0 (2 ^ ss.length) (Nat.two_pow_pos _) (fun s h1 h2 => ?_)]
  · rw [if_pos (takeB_iff.2 ⟨p, fun v hv => by have := h0 _ (at_mem hv); simpa [bitI] using this⟩), e]
  · rw [if_neg]
    intro hh
    exact h2 (hz ⟨s, by omega⟩ (takeB_iff.1 hh).1)

theorem cnt_zeros {ss : List Int} (hs : ss.length ≤ 5) (h0 : ∀ s ∈ ss, 0 ≤ s) (ds : List Int) : ∀ k, ds.length + k ≤ 5 → cntL ss (ds ++ List.replicate k 0) = cntL ss ds
  | 0, _ => by simp
  | k + 1, h => by
    have hp : (ds ++ List.replicate (k + 1) 0).Perm (0 :: (ds ++ List.replicate k 0)) := by
      rw [List.replicate_succ]; exact List.perm_middle
    rw [cnt_perm2 (List.Perm.refl ss) hp hs (by simp; omega), cnt_pad0 hs (by simp; omega) h0, cnt_zeros hs h0 ds k (by omega)]

/-- What the first few of a list's members have in a club. -/
def preB (r : Nat) : Nat → Int
  | 0 => 0
  | j + 1 => preB r j + bitI r j

theorem preB_fin : ∀ (r : Fin 32) (j : Fin 6), preB r.val j.val ≤ (j.val : Int) ∧ preB r.val j.val ≤ pop (r.val : Int) ∧ preB r.val 5 = pop (r.val : Int) := by decide +kernel
theorem preB_more (r n : Nat) (hr : r < 2 ^ n) : ∀ k, preB r (n + k) = preB r n
  | 0 => rfl
  | k + 1 => by
    rw [show n + (k + 1) = n + k + 1 from rfl, preB, preB_more r n hr k, bitI, Nat.testBit_lt_two_pow (Nat.lt_of_lt_of_le hr (Nat.pow_le_pow_right (by decide) (by omega)))]
    simp

theorem pre_take (Y : List Int) (r : Nat) : ∀ j, j ≤ Y.length → preZ (takeN Y r) j = preZ Y j - preB r j
  | 0, _ => by simp [preZ, preB]
  | j + 1, h => by
    rw [pre_succ _ j (by rw [takeN_len]; omega), pre_succ _ j (by omega), pre_take Y r j (by omega), takeN_at _ _ _ (by omega), preB]
    omega

/-- .. and the other way round. -/
theorem gr_only : ∀ (ss Y : List Int), Y.length ≤ 5 → 0 < cntL ss Y → (∀ j : Nat, j ≤ Y.length → preZ Y j ≤ roomZ ss (j : Int)) ∧ preZ Y Y.length = ss.sum
  | [], Y, _, h => by
    rw [cntL] at h
    have hz : Y.all (fun x => x == 0) = true := by
      by_cases e : Y.all (fun x => x == 0) = true
      · exact e
      · rw [if_neg e] at h; omega
    have hp : ∀ j, j ≤ Y.length → preZ Y j = 0 := by
      intro j
      induction j with
      | zero => intro _; simp [preZ]
      | succ j ih =>
        intro hj
        have := (List.all_eq_true.1 hz) _ (at_mem (left := Y) (v := j) (by omega))
        rw [pre_succ Y j (by omega), ih (by omega)]
        simpa using this
    exact ⟨fun j hj => by rw [hp j hj]; simp [roomZ], by rw [hp _ (Nat.le_refl _)]; rfl⟩
  | s :: ss, Y, hY, h => by
    obtain ⟨r, hr, hB, hc⟩ := cnt_some h
    have q := pow_32 hY
    obtain ⟨i1, i2⟩ := gr_only ss (takeN Y r) (by rw [takeN_len]; exact hY) hc
    rw [takeN_len] at i1 i2
    have hpop := (takeB_iff.1 hB).1
    have hf : ∀ j, j ≤ Y.length → preB r j ≤ (j : Int) ∧ preB r j ≤ s ∧ preB r 5 = s := by
      intro j hj
      have := preB_fin ⟨r, by omega⟩ ⟨j, by omega⟩
      rw [hpop] at this
      exact this
    refine ⟨fun j hj => ?_, ?_⟩
    · have h1 := i1 j hj
      rw [pre_take Y r j hj] at h1
      have h2 := hf j hj
      rw [room_cons]
      omega
    · rw [pre_take Y r _ (Nat.le_refl _)] at i2
      have h2 := (hf _ (Nat.le_refl _)).2.2
      have h3 := preB_more r Y.length hr (5 - Y.length)
      rw [show Y.length + (5 - Y.length) = 5 by omega] at h3
      rw [List.sum_cons]
      omega

theorem pre_pad (D : List Int) (k j : Nat) : preZ (D ++ List.replicate k 0) j = preZ D j := by
  have h : ∀ m : Nat, (List.replicate m (0 : Int)).sum = 0 := by
    intro m
    induction m with
    | zero => rfl
    | succ m ih => rw [List.replicate_succ, List.sum_cons, ih]; rfl
  rw [preZ, preZ, List.take_append, List.sum_append, List.take_replicate, h]
  omega

theorem room_le {a b : Nat} (ss : List Int) (h : a ≤ b) : roomZ ss (a : Int) ≤ roomZ ss (b : Int) := by
  induction b with
  | zero => obtain rfl : a = 0 := by omega
            exact Int.le_refl _
  | succ b ih =>
    by_cases e : a = b + 1
    · subst e; exact Int.le_refl _
    · have h1 := ih (by omega)
      have h2 := room_mono (b : Int) ss
      rw [show ((b + 1 : Nat) : Int) = (b : Int) + 1 by omega]
      omega

/-- Some family has sizes and degrees, just where no few of the degrees ask for more than sizes have room for. -/
theorem cnt_is {ss zs : List Int} (hs : ss.length ≤ 5) (h0 : ∀ s ∈ ss, 0 ≤ s ∧ s ≤ 5) (hz : zs.length ≤ 5) (hz0 : ∀ z ∈ zs, 0 ≤ z) : 0 < cntL ss zs ↔ isB ss zs = true := by
  have hp := desc_perm zs
  have hl := desc_len zs
  rw [isB, Bool.and_eq_true, decide_eq_true_eq, List.all_eq_true, cnt_perm2 (List.Perm.refl ss) hp.symm hs hz]
  constructor
  · intro h
    obtain ⟨h1, h2⟩ := gr_only ss (descL zs) (by omega) h
    rw [hl] at h1 h2
    exact ⟨fun j hj => by rw [fitZ, decide_eq_true_eq]; exact h1 j (by have := List.mem_range.1 hj; omega), h2⟩
  · rintro ⟨h1, h2⟩
    have hq : ∀ j : Nat, j ≤ zs.length → preZ (descL zs) j ≤ roomZ ss (j : Int) := fun j hj => by
      have := h1 j (List.mem_range.2 (by omega))
      rwa [fitZ, decide_eq_true_eq] at this
    have hsum : (descL zs).sum = ss.sum := by rw [← h2, ← hl, pre_all _ _ (Nat.le_refl _)]
    rw [← cnt_zeros hs (fun s h => (h0 s h).1) (descL zs) (5 - zs.length) (by omega)]
    refine gr_some ss hs h0 _ (by rw [List.length_append, List.length_replicate]; omega) (fun y hy => ?_) ?_ (fun j hj => ?_) ?_
    · rcases List.mem_append.1 hy with hy | hy
      · exact hz0 y (desc_mem hy)
      · have := List.eq_of_mem_replicate hy
        omega
    · rw [List.pairwise_append]
      refine ⟨desc_down zs, ?_, fun x hx y hy => ?_⟩
      · rw [List.pairwise_replicate]; exact Or.inr (Int.le_refl _)
      · have := List.eq_of_mem_replicate hy
        have := hz0 x (desc_mem hx)
        omega
    · rw [pre_pad]
      by_cases e : j ≤ zs.length
      · exact hq j e
      · rw [pre_all _ j (by omega), ← pre_all (descL zs) zs.length (by omega)]
        exact Int.le_trans (hq _ (Nat.le_refl _)) (room_le ss (by omega))
    · have := pre_pad (descL zs) (5 - zs.length) 5
      rw [pre_all _ 5 (by rw [List.length_append, List.length_replicate]; omega), pre_all _ 5 (by omega)] at this
      rw [this, room_five h0, hsum]

end Go.Proofs.YtbiggilheicfjaaDoor
