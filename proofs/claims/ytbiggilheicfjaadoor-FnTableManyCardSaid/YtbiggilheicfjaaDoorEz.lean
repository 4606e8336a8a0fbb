/- It is proved that the count of families with given sizes and degrees does not depend on the order of either, and is the same with the two exchanged; conditions: those of each statement. -/
import Derived.RowKit
import Derived.Laws.CopyRow
import Derived.Lib.SlBuf
import Derived.Deep.QuietTactic
import Derived.RangeFuncNested
import Derived.RangeFuncBound
import Derived.RangeFuncCalls
import Derived.RangeFuncLeaves
import Derived.RangeFuncBox
import Derived.RangeFuncWrites
import Derived.StillTailTactics
import Derived.Maps.OwnIn
import Derived.Maps.Ext
import Derived.DeepKeys4
import Derived.MapKept
import Derived.Test.YtbiggilheicfjaaDoorRows
import Derived.WalkKit
import Derived.WalkSpells
import Derived.ProofKit
import Derived.OpenShut
import Derived.ShutString
import Derived.ChangeOld
import Derived.Below
import Derived.Deep.RegionHeld3
import Derived.BigQuiet
import Derived.Lib.Hide
import Derived.Lib.SmallJoins
import Derived.Outline
import Derived.Laws.MakeOwn
import Derived.Laws.OwnMore
import Derived.IntWalk
import Derived.Maps.AppendAt
import Derived.Sort.QuietIn
import Derived.Lib.AppendZeros
import Derived.Deep.AppendLies
import Derived.OwnWalk
import Derived.Lib.SlicesCompact
import Derived.Lib.OwnBridge
import Derived.OrdersIn
import Derived.TacticsIn
import Derived.Shelf.Sort.Plain
import Derived.Shelf.Slices.In.SortNone
import Derived.Shelf.Slices.CompactI
import Derived.Ground.Names2Prog
import Derived.Shelf.Abstract
import Derived.Shelf.RegionOpen
import Derived.OwnWalkIn
import Derived.TacticsInMore
import Derived.LoopNIn
import Derived.LoopIn
import Derived.StillTail
import Derived.StillTactics
import Derived.Shelf.Spec.TrailingZeros
import Derived.Test.YtbiggilheicfjaaDoorEk
import Derived.Test.YtbiggilheicfjaaDoorEl
import Derived.Test.YtbiggilheicfjaaDoorMva
import Derived.Test.YtbiggilheicfjaaDoorZa
namespace Go.Proofs.YtbiggilheicfjaaDoor
open Go.RowKit Go.Shelf

/-- A sum over the first numbers. -/
def sumR (n : Nat) (f : Nat → Nat) : Nat := sumN ((List.range n).map f)

theorem sumR_succ (n : Nat) (f : Nat → Nat) : sumR (n + 1) f = sumR n f + f n := by
  simp [sumR, List.range_succ, List.map_append, sumN_append, sumN]

theorem sumR_zero (f : Nat → Nat) : sumR 0 f = 0 := rfl
theorem sumR_one (f : Nat → Nat) : sumR 1 f = f 0 := by rw [sumR_succ, sumR_zero, Nat.zero_add]
theorem sumR_congr {f g : Nat → Nat} : ∀ n, (∀ s, s < n → f s = g s) → sumR n f = sumR n g
  | 0, _ => rfl
  | n + 1, h => by rw [sumR_succ, sumR_succ, sumR_congr n (fun s hs => h s (by omega)), h n (by omega)]

theorem sumR_add (f g : Nat → Nat) : ∀ n, sumR n (fun s => f s + g s) = sumR n f + sumR n g
  | 0 => rfl
  | n + 1 => by rw [sumR_succ, sumR_succ, sumR_succ, sumR_add f g n]; omega

theorem sumR_null : ∀ n, sumR n (fun _ => 0) = 0
  | 0 => rfl
  | n + 1 => by rw [sumR_succ, sumR_null n]

theorem sumR_swap (f : Nat → Nat → Nat) (m : Nat) : ∀ n, sumR n (fun i => sumR m (fun j => f i j)) = sumR m (fun j => sumR n (fun i => f i j))
  | 0 => by rw [sumR_zero]; exact (sumR_null m).symm
  | n + 1 => by
    rw [sumR_succ, sumR_swap f m n, ← sumR_add]
    exact sumR_congr m (fun j _ => (sumR_succ n (fun i => f i j)).symm)

theorem sumR_two (f : Nat → Nat) : ∀ n, sumR (2 * n) f = sumR n (fun r => f (2 * r) + f (2 * r + 1))
  | 0 => rfl
  | n + 1 => by
    rw [show 2 * (n + 1) = 2 * n + 1 + 1 by omega, sumR_succ, sumR_succ, sumR_succ, sumR_two f n]; omega

theorem sumR_if (b : Bool) (f : Nat → Nat) (n : Nat) : (if b then sumR n f else 0) = sumR n (fun s => if b then f s else 0) := by
  cases b
  · simp only [Bool.false_eq_true, if_false]; exact (sumR_null n).symm
  · simp only [if_true]

theorem cntL_cons (z : Int) (ss left : List Int) : cntL (z :: ss) left = sumR (2 ^ left.length) fun s => if takeB z left s then cntL ss (takeN left s) else 0 := by
  rw [cntL, sumR]

theorem pop_two_fin : ∀ (r : Fin 32), pop ((2 * r.val : Nat) : Int) = pop (r.val : Int) ∧ pop ((2 * r.val + 1 : Nat) : Int) = pop (r.val : Int) + 1 ∧ 0 ≤ pop (r.val : Int) := by decide +kernel
theorem pop_two {r b : Nat} (hr : r < 32) (hb : b ≤ 1) : pop ((2 * r + b : Nat) : Int) = pop (r : Int) + (b : Int) := by
  have h := pop_two_fin ⟨r, hr⟩
  obtain rfl | rfl : b = 0 ∨ b = 1 := by omega
  · simpa using h.1
  · exact h.2.1

theorem pop_pos {r : Nat} (hr : r < 32) : 0 ≤ pop (r : Int) := (pop_two_fin ⟨r, hr⟩).2.2
theorem bitI_zero {r b : Nat} (hb : b ≤ 1) : bitI (2 * r + b) 0 = (b : Int) := by
  obtain rfl | rfl : b = 0 ∨ b = 1 := by omega
  · simp [bitI, Nat.testBit_zero]
  · simp [bitI, Nat.testBit_zero]

theorem bitI_more {r b : Nat} (hb : b ≤ 1) (v : Nat) : bitI (2 * r + b) (v + 1) = bitI r v := by
  unfold bitI
  rw [Nat.testBit_succ, show (2 * r + b) / 2 = r by omega]

theorem ext_at {xs ys : List Int} (hl : xs.length = ys.length) (h : ∀ v, v < xs.length → xs[v]?.getD 0 = ys[v]?.getD 0) : xs = ys := by
  refine List.ext_getElem hl (fun v h1 h2 => ?_)
  have := h v h1
  rw [List.getElem?_eq_getElem h1, List.getElem?_eq_getElem h2] at this
  exact this

theorem takeN_two {r b : Nat} (hb : b ≤ 1) (d : Int) (ds : List Int) : takeN (d :: ds) (2 * r + b) = (d - (b : Int)) :: takeN ds r := by
  refine ext_at (by simp [takeN_len]) (fun v hv => ?_)
  rw [takeN_len] at hv
  rw [takeN_at _ _ _ hv]
  cases v with
  | zero => rw [bitI_zero hb]; rfl
  | succ v =>
    rw [bitI_more hb, List.getElem?_cons_succ, List.getElem?_cons_succ, takeN_at _ _ _ (by simpa using hv)]

theorem takeB_two {r b : Nat} (hr : r < 32) (hb : b ≤ 1) (z d : Int) (ds : List Int) : takeB z (d :: ds) (2 * r + b) = (decide (0 ≤ d - (b : Int)) && takeB (z - (b : Int)) ds r) := by
  rw [Bool.eq_iff_iff, Bool.and_eq_true, takeB_iff, takeB_iff, decide_eq_true_eq, pop_two hr hb]
  constructor
  · rintro ⟨h1, h2⟩
    have h3 := h2 0 (by simp)
    rw [bitI_zero hb] at h3
    refine ⟨by simpa using h3, by omega, fun v hv => ?_⟩
    have h4 := h2 (v + 1) (by simp; omega)
    rwa [bitI_more hb, List.getElem?_cons_succ] at h4
  · rintro ⟨h1, h2, h3⟩
    refine ⟨by omega, fun v hv => ?_⟩
    cases v with
    | zero => rw [bitI_zero hb]; simpa using h1
    | succ v => rw [bitI_more hb, List.getElem?_cons_succ]; exact h3 v (by simpa using hv)

theorem takeB_pos {z : Int} {ds : List Int} {r : Nat} (hr : r < 32) (h : takeB z ds r = true) : 0 ≤ z := by
  rw [← (takeB_iff.1 h).1]; exact pop_pos hr

theorem pow_32 {n : Nat} (h : n ≤ 5) : 2 ^ n ≤ 32 := Nat.pow_le_pow_right (n := 2) (by decide) h
/-- A pair of a club and a member's row, both without their first places. -/
def colG (s d : Int) (ss ds : List Int) (b r c : Nat) : Nat := if takeB (s - (b : Int)) ds r && takeB (d - (b : Int)) ss c then cntL (takeN ss c) (takeN ds r) else 0

theorem cnt_col : ∀ (ss : List Int) (d : Int) (ds : List Int), ss.length ≤ 5 → ds.length ≤ 5 → cntL ss (d :: ds) = sumR (2 ^ ss.length) fun c => if takeB d ss c then cntL (takeN ss c) ds else 0
  | [], d, ds, _, _ => by
    rw [show 2 ^ ([] : List Int).length = 1 from rfl, sumR_one]
    have e : takeN [] 0 = [] := rfl
    have p : pop ((0 : Nat) : Int) = 0 := by decide +kernel
    rw [e, cntL, cntL]
    by_cases h : d = 0
    · subst h
      rw [if_pos (show takeB 0 [] 0 = true from takeB_iff.2 ⟨p, fun v hv => absurd hv (by simp)⟩)]
      simp
    · rw [if_neg (show ¬ takeB d [] 0 = true from fun hh => h (by rw [← (takeB_iff.1 hh).1]; exact p))]
      simp [h]
  | s :: ss, d, ds, hs, hd => by
    have hs' : ss.length ≤ 5 := by simp at hs; omega
    have q1 := pow_32 hs'
    have q2 := pow_32 hd
    have hF : ∀ r b, r < 2 ^ ds.length → b ≤ 1 → (if takeB s (d :: ds) (2 * r + b) then cntL ss (takeN (d :: ds) (2 * r + b)) else 0) = sumR (2 ^ ss.length) (colG s d ss ds b r) := by
      intro r b hr hb
      rw [takeB_two (by omega) hb, takeN_two hb, cnt_col ss _ _ hs' (by rw [takeN_len]; exact hd), sumR_if]
      refine sumR_congr _ (fun c hc => ?_)
      unfold colG
      cases h1 : takeB (d - (b : Int)) ss c
      · simp
      · have := takeB_pos (by omega) h1
        rw [decide_eq_true this]; simp
    have hH : ∀ c b, c < 2 ^ ss.length → b ≤ 1 → (if takeB d (s :: ss) (2 * c + b) then cntL (takeN (s :: ss) (2 * c + b)) ds else 0) = sumR (2 ^ ds.length) (fun r => colG s d ss ds b r c) := by
      intro c b hc hb
      rw [takeB_two (by omega) hb, takeN_two hb, cntL_cons, sumR_if]
      refine sumR_congr _ (fun r hr => ?_)
      unfold colG
      cases h1 : takeB (s - (b : Int)) ds r
      · simp
      · have := takeB_pos (by omega) h1
        rw [decide_eq_true this]; simp
    rw [cntL_cons, List.length_cons, List.length_cons, Nat.pow_succ, Nat.mul_comm, Nat.pow_succ, Nat.mul_comm (2 ^ ss.length), sumR_two, sumR_two]
    rw [sumR_congr (2 ^ ds.length) (fun r hr => by rw [hF r 1 hr (by omega), show 2 * r = 2 * r + 0 from rfl, hF r 0 hr (by omega)])]
    rw [sumR_congr (2 ^ ss.length) (fun c hc => by rw [hH c 1 hc (by omega), show 2 * c = 2 * c + 0 from rfl, hH c 0 hc (by omega)])]
    rw [sumR_add, sumR_add]
    have e0 := sumR_swap (fun r c => colG s d ss ds 0 r c) (2 ^ ss.length) (2 ^ ds.length)
    have e1 := sumR_swap (fun r c => colG s d ss ds 1 r c) (2 ^ ss.length) (2 ^ ds.length)
    exact congr (congrArg HAdd.hAdd e0) e1

/-- As many families have some sizes and degrees as have them turned. -/
theorem cnt_turn : ∀ (ds ss : List Int), ds.length ≤ 5 → ss.length ≤ 5 → cntL ss ds = cntL ds ss
  | [], ss, _, hs => by
    induction ss with
    | nil => rfl
    | cons z ss ih =>
      rw [cntL_cons, show 2 ^ ([] : List Int).length = 1 from rfl, sumR_one]
      have e : takeN [] 0 = [] := rfl
      have p : pop ((0 : Nat) : Int) = 0 := by decide +kernel
      rw [e, ih (by simp at hs; omega), cntL, cntL]
      by_cases h : z = 0
      · subst h
        rw [if_pos (show takeB 0 [] 0 = true from takeB_iff.2 ⟨p, fun v hv => absurd hv (by simp)⟩)]
        simp
      · rw [if_neg (show ¬ takeB z [] 0 = true from fun hh => h (by rw [← (takeB_iff.1 hh).1]; exact p))]
        simp [h]
  | d :: ds, ss, hd, hs => by
    have hd' : ds.length ≤ 5 := by simp at hd; omega
    rw [cnt_col ss d ds hs hd', cntL_cons]
    refine sumR_congr _ (fun c _ => ?_)
    rw [cnt_turn ds (takeN ss c) hd' (by rw [takeN_len]; exact hs)]

/-- Two sizes' places may be exchanged. -/
theorem cnt_swap (y z : Int) (ss left : List Int) : cntL (y :: z :: ss) left = cntL (z :: y :: ss) left := by
  have h : ∀ y z : Int, cntL (y :: z :: ss) left = sumR (2 ^ left.length) fun s => sumR (2 ^ left.length) fun t => if takeB y left s && takeB z (takeN left s) t then cntL ss (takeN (takeN left s) t) else 0 := by
    intro y z
    rw [cntL_cons]
    refine sumR_congr _ (fun s _ => ?_)
    rw [cntL_cons, takeN_len, sumR_if]
    refine sumR_congr _ (fun t _ => ?_)
    cases takeB y left s <;> simp
  rw [h y z, h z y, sumR_swap]
  refine sumR_congr _ (fun t _ => sumR_congr _ (fun s _ => ?_))
  have e : takeN (takeN left s) t = takeN (takeN left t) s := by
    refine ext_at (by simp [takeN_len]) (fun v hv => ?_)
    rw [takeN_len, takeN_len] at hv
    rw [takeN_at _ _ _ (by rw [takeN_len]; exact hv), takeN_at _ _ _ hv, takeN_at _ _ _ (by rw [takeN_len]; exact hv), takeN_at _ _ _ hv]
    omega
  have b : (takeB y left s && takeB z (takeN left s) t) = (takeB z left t && takeB y (takeN left t) s) := by
    rw [Bool.eq_iff_iff, Bool.and_eq_true, Bool.and_eq_true, takeB_iff, takeB_iff, takeB_iff, takeB_iff, takeN_len, takeN_len]
    constructor
    · rintro ⟨⟨h1, h2⟩, h3, h4⟩
      refine ⟨⟨h3, fun v hv => ?_⟩, h1, fun v hv => ?_⟩
      · have := h4 v hv
        rw [takeN_at _ _ _ hv] at this
        have := bitI_01 s v
        omega
      · have := h4 v hv
        rw [takeN_at _ _ _ hv] at this
        rw [takeN_at _ _ _ hv]
        omega
    · rintro ⟨⟨h1, h2⟩, h3, h4⟩
      refine ⟨⟨h3, fun v hv => ?_⟩, h1, fun v hv => ?_⟩
      · have := h4 v hv
        rw [takeN_at _ _ _ hv] at this
        have := bitI_01 t v
        omega
      · have := h4 v hv
        rw [takeN_at _ _ _ hv] at this
        rw [takeN_at _ _ _ hv]
        omega
  rw [e, b]

/-- Sizes in any order. -/
theorem cnt_perm {xs ys : List Int} (h : xs.Perm ys) : ∀ left, cntL xs left = cntL ys left := by
  induction h with
  | nil => exact fun _ => rfl
  | cons x _ ih =>
    intro left
    rw [cntL_cons, cntL_cons]
    exact sumR_congr _ (fun s _ => by rw [ih])
  | swap x y l => exact fun left => cnt_swap y x l left
  | trans _ _ ih1 ih2 => exact fun left => (ih1 left).trans (ih2 left)

/-- Both in any order. -/
theorem cnt_perm2 {xs ys ds es : List Int} (h : xs.Perm ys) (g : ds.Perm es) (hx : xs.length ≤ 5) (hd : ds.length ≤ 5) : cntL xs ds = cntL ys es := by
  rw [cnt_perm h, cnt_turn ds ys hd (by rw [← h.length_eq]; exact hx), cnt_perm g, cnt_turn es ys (by rw [← g.length_eq]; exact hd) (by rw [← h.length_eq]; exact hx)]

end Go.Proofs.YtbiggilheicfjaaDoor
