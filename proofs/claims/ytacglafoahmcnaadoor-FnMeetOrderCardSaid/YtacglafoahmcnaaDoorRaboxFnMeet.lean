/- It is proved that families with an even order have one for all, and how far a club reaches in an even order; conditions: those of each statement. -/
import Derived.RowKit
import Derived.Laws.CopyRow
import Derived.Lib.SlBuf
import Derived.Deep.QuietTactic
import Derived.RangeFuncNested
import Derived.RangeFuncBound
import Derived.RangeFuncCalls
import Derived.RangeFuncLeaves
import Derived.RangeFuncBox
import Derived.RangeFuncWrites
import Derived.StillTailTactics
import Derived.Maps.OwnIn
import Derived.Maps.Ext
import Derived.DeepKeys4
import Derived.MapKept
import Derived.Test.YtacglafoahmcnaaDoorRows
import Derived.WalkKit
import Derived.WalkSpells
import Derived.ProofKit
import Derived.OpenShut
import Derived.ShutString
import Derived.ChangeOld
import Derived.Below
import Derived.Deep.RegionHeld3
import Derived.BigQuiet
import Derived.Lib.Hide
import Derived.Lib.SmallJoins
import Derived.Outline
import Derived.Laws.MakeOwn
import Derived.Laws.OwnMore
import Derived.IntWalk
import Derived.Maps.AppendAt
import Derived.Sort.MapsRangeIn
import Derived.Deep.RegionLaw
import Derived.Deep.AppendLies
import Derived.Lib.AppendZeros
import Derived.OwnWalk
import Derived.Lib.SlicesCompact
import Derived.Lib.OwnBridge
import Derived.OrdersIn
import Derived.TacticsIn
import Derived.Shelf.Sort.Plain
import Derived.Shelf.Slices.In.SortNone
import Derived.Shelf.Slices.CompactI
import Derived.Ground.Names2Prog
import Derived.Lib.SliceRun
import Derived.Laws.BitsAllLaws
import Derived.Shelf.RegionOpen
import Derived.Shelf.Abstract
import Derived.OwnWalkIn
import Derived.TacticsInMore
import Derived.LoopNIn
import Derived.LoopIn
import Derived.StillTail
import Derived.StillTactics
import Derived.Shelf.Spec.TrailingZeros
import Derived.Deep.LoopGhost
import Derived.Test.YtacglafoahmcnaaDoorRaazxFnMeet
import Derived.Test.YtacglafoahmcnaaDoorRaac
import Derived.Test.YtacglafoahmcnaaDoorRabbxFnMeet
import Derived.Test.YtacglafoahmcnaaDoorRabdxFnMeet
import Derived.Test.YtacglafoahmcnaaDoorRabexFnMeet
import Derived.Test.YtacglafoahmcnaaDoorYt
import Derived.Deep.RegionWith
import Derived.Test.YtacglafoahmcnaaDoorRaaa
import Derived.Test.YtacglafoahmcnaaDoorDb
import Derived.Test.YtacglafoahmcnaaDoorRaap
import Derived.Test.YtacglafoahmcnaaDoorRaad
import Derived.Test.YtacglafoahmcnaaDoorRaag
import Derived.Test.YtacglafoahmcnaaDoorRabfxFnMeet
import Derived.Test.YtacglafoahmcnaaDoorRaab
import Derived.Test.YtacglafoahmcnaaDoorRaai
import Derived.Test.YtacglafoahmcnaaDoorRaaw
namespace Go.Proofs.YtacglafoahmcnaaDoor
open Go.RowKit Go.Shelf

theorem run_zero (f : Nat → Bool) : ∀ j, runF f j = 0 → ∀ i, i < j → f i = false
  | 0, _, i, h => by omega
  | j + 1, h, i, hi => by
    unfold runF at h
    by_cases hc : (f j && (j == 0 || !f (j - 1))) = true
    · rw [if_pos hc] at h; omega
    · rw [if_neg hc] at h
      have ih := run_zero f j h
      by_cases hij : i < j
      · exact ih i hij
      · obtain rfl : i = j := by omega
        by_cases h0 : i = 0
        · subst h0
          cases hf : f 0
          · rfl
          · exact absurd (by rw [hf]; rfl) hc
        · have h1 := ih (i - 1) (by omega)
          cases hf : f i
          · rfl
          · exact absurd (by rw [hf, h1]; simp) hc

/-- One run has no gap. -/
theorem run_conv (f : Nat → Bool) : ∀ j, runF f j ≤ 1 → ∀ a b c, a ≤ b → b ≤ c → c < j → f a = true → f c = true → f b = true
  | 0, _, a, b, c, _, _, h, _, _ => by omega
  | j + 1, hr, a, b, c, hab, hbc, hc, fa, fc => by
    unfold runF at hr
    by_cases hq : (f j && (j == 0 || !f (j - 1))) = true
    · rw [if_pos hq] at hr
      have h0 := run_zero f j (by omega)
      have ha : a = j := by
        by_cases h : a < j
        · rw [h0 a h] at fa; cases fa
        · omega
      have : b = a := by omega
      rw [this]; exact fa
    · rw [if_neg hq] at hr
      by_cases hcj : c < j
      · exact run_conv f j hr a b c hab hbc hcj fa fc
      · obtain rfl : c = j := by omega
        by_cases hbc' : b = c
        · rw [hbc']; exact fc
        · have h1 : f (c - 1) = true := by
            cases h1 : f (c - 1)
            · exact absurd (by rw [fc, h1]; simp) hq
            · rfl
          exact run_conv f c hr a b (c - 1) hab (by omega) (by omega) fa h1

theorem least_at {P : Nat → Prop} : ∀ n, P n → ∃ b, b ≤ n ∧ P b ∧ ∀ c, c < b → ¬ P c := by
  intro n
  induction n using Nat.strongRecOn with
  | ind n ih =>
    intro h
    by_cases hx : ∃ c, c < n ∧ P c
    · obtain ⟨c, hc, hp⟩ := hx
      obtain ⟨b, hb, h1, h2⟩ := ih c hc hp
      exact ⟨b, by omega, h1, h2⟩
    · exact ⟨n, Nat.le_refl _, h, fun c hc hp => hx ⟨c, hc, hp⟩⟩

theorem greatest_at {P : Nat → Prop} : ∀ n, (∃ x, x < n ∧ P x) → ∃ x, x < n ∧ P x ∧ ∀ y, y < n → P y → y ≤ x
  | 0, ⟨x, h, _⟩ => by omega
  | n + 1, ⟨x, h, hp⟩ => by
    by_cases hn : P n
    · exact ⟨n, by omega, hn, fun y hy _ => by omega⟩
    · have hx : x < n := by
        by_cases h' : x = n
        · subst h'; exact absurd hp hn
        · omega
      obtain ⟨z, h1, h2, h3⟩ := greatest_at n ⟨x, hx, hp⟩
      exact ⟨z, by omega, h2, fun y hy hyp => by
        by_cases h' : y = n
        · subst h'; exact absurd hyp hn
        · exact h3 y (by omega) hyp⟩

theorem perm_full {k : Nat} {p : List Nat} (hp : p ∈ lvlL k k) : p.Perm (List.range k) := by
  rw [lvlL_perms] at hp
  exact permsL_perm k _ _ (by simp) hp

theorem atF_at {k : Nat} {p : List Nat} (hp : p ∈ lvlL k k) (z : Nat) {a : Nat} (ha : a < k) : ∃ v, v < k ∧ p[a]? = some v ∧ atF z (nI p) a = z.testBit v := by
  have hl := lvlL_in hp
  have hal : a < p.length := by omega
  refine ⟨p[a], lvlL_lt hp _ (List.getElem_mem hal), List.getElem?_eq_getElem hal, ?_⟩
  unfold atF nI
  simp [hal]

theorem atF_of {k : Nat} {p : List Nat} (hp : p ∈ lvlL k k) {v : Nat} (hv : v < k) : ∃ a, a < k ∧ p[a]? = some v ∧ ∀ z, atF z (nI p) a = z.testBit v := by
  have hl := lvlL_in hp
  have hm : v ∈ p := (perm_full hp).mem_iff.2 (List.mem_range.2 hv)
  obtain ⟨a, ha, rfl⟩ := List.mem_iff_getElem.1 hm
  refine ⟨a, by omega, List.getElem?_eq_getElem ha, fun z => ?_⟩
  unfold atF nI
  simp [ha]

theorem even_conv {k : Nat} (hk : k ≤ 6) {zs : List Int} {p : List Nat} (hp : p ∈ lvlL k k) (he : brkC zs (nI p) = false) {z : Int} (hz : z ∈ zs) :
    ∀ a b c, a ≤ b → b ≤ c → c < k → atF z.toNat (nI p) a = true → atF z.toNat (nI p) c = true → atF z.toNat (nI p) b = true := by
  have hl : (nI p).length = k := by rw [nI_len]; exact lvlL_in hp
  have h1 : brkB (nI p) z.toNat = false := by
    unfold brkC at he
    rw [List.any_eq_false] at he
    have := he z hz
    cases h : brkB (nI p) z.toNat
    · rfl
    · exact absurd h this
  unfold brkB at h1
  rw [hl, unb_run _ _ hk] at h1
  have h2 : runF (atF z.toNat (nI p)) k ≤ 1 := by simpa using h1
  exact run_conv _ _ h2

/-- Families with an even order have one for all. -/
theorem even_helly {k : Nat} {zs : List Int} (hf : famIn (k : Int) zs = true) {p : List Nat} (hp : p ∈ lvlL k k) (he : brkC zs (nI p) = false) : hellyB (k : Int) zs = true := by
  obtain ⟨k', hkk, hk1, hk6, hset, hl8⟩ := fam_nat2 hf
  obtain rfl : k' = k := by omega
  unfold hellyB
  rw [hf, Bool.true_and, Int.toNat_natCast, tc_iff hl8]
  intro s hs ht
  rw [du_tie hk6 hset hl8 hs] at ht
  rw [du_in hk6 hs]
  obtain ⟨h0, hm⟩ := ht
  have hmem : ∀ i, s.testBit i = true → zs[i]?.getD 0 ∈ zs := fun i hi => getD_mem (nat_bit_lt hs hi)
  have hmeet : ∀ i j, s.testBit i = true → s.testBit j = true → ∃ a, a < k' ∧ atF (zs[i]?.getD 0).toNat (nI p) a = true ∧ atF (zs[j]?.getD 0).toNat (nI p) a = true := by
    intro i j hi hj
    obtain ⟨v, h1, h2⟩ := (met_iff zs i j).1 (hm i j hi hj)
    have hv : v < k' := nat_bit_lt (hset _ (hmem i hi)).2 h1
    obtain ⟨a, ha, -, hat⟩ := atF_of hp hv
    exact ⟨a, ha, by rw [hat]; exact h1, by rw [hat]; exact h2⟩
  obtain ⟨i1, hi1⟩ : ∃ i, s.testBit i = true := by
    obtain ⟨i, hi⟩ := Nat.exists_testBit_of_ne_zero h0
    exact ⟨i, hi⟩
  have hlo : ∀ i, s.testBit i = true → ∃ y, y < k' ∧ atF (zs[i]?.getD 0).toNat (nI p) y = true ∧ ∀ c, c < y → ¬ atF (zs[i]?.getD 0).toNat (nI p) c = true := by
    intro i hi
    obtain ⟨a, ha, h1, -⟩ := hmeet i i hi hi
    obtain ⟨b, hb, h2, h3⟩ := least_at (P := fun c => atF (zs[i]?.getD 0).toNat (nI p) c = true) a h1
    exact ⟨b, by omega, h2, h3⟩
  obtain ⟨x, hx, ⟨i0, hi0, hx1, hx2⟩, hmax⟩ := greatest_at (P := fun y => ∃ i, s.testBit i = true ∧ atF (zs[i]?.getD 0).toNat (nI p) y = true ∧ ∀ c, c < y → ¬ atF (zs[i]?.getD 0).toNat (nI p) c = true) k' (by
    obtain ⟨y, hy, h1, h2⟩ := hlo i1 hi1
    exact ⟨y, hy, i1, hi1, h1, h2⟩)
  obtain ⟨v, hv, hpv, -⟩ := atF_at hp 0 hx
  refine ⟨v, hv, fun i hi => ?_⟩
  obtain ⟨y, hy, h1, h2⟩ := hlo i hi
  have hyx := hmax y hy ⟨i, hi, h1, h2⟩
  obtain ⟨a, ha, h3, h4⟩ := hmeet i i0 hi hi0
  have hxa : x ≤ a := by
    by_cases h : a < x
    · exact absurd h4 (hx2 a h)
    · omega
  have h5 := even_conv hk6 hp he (hmem i hi) y x a hyx hxa ha h1 h3
  obtain ⟨v', -, hpv', e⟩ := atF_at hp (zs[i]?.getD 0).toNat hx
  rw [hpv] at hpv'
  injection hpv' with hpv'
  rw [hpv', ← e]
  exact h5

/-- So many members has a club in an order. -/
theorem size_at {k : Nat} (hk : k ≤ 6) {p : List Nat} (hp : p ∈ lvlL k k) {z : Nat} (hz : z < 2 ^ k) : ((List.range k).filter (atF z (nI p))).length = cntK 8 z := by
  have hl := lvlL_in hp
  have e1 : cntK 8 z = ((List.range k).filter fun i => z.testBit i).length := by
    unfold cntK memK
    rw [filt_cut hz 8 (by omega)]
  have e2 : p = (List.range k).map fun a => p[a]?.getD 0 := by
    apply List.ext_getElem
    · simp [hl]
    · intro i h1 h2; simp [h1]
  rw [e1, ← ((perm_full hp).filter fun i => z.testBit i).length_eq]
  conv => rhs; rw [e2]
  rw [List.filter_map, List.length_map]
  congr 1
  apply List.filter_congr
  intro a ha
  have ha' := List.mem_range.1 ha
  obtain ⟨v, -, h1, h2⟩ := atF_at hp z ha'
  rw [h2]
  simp [h1]

theorem range_between (k x y : Nat) (hxy : x ≤ y) (hy : y < k) {f : Nat → Bool} (h : ∀ a, a < k → (f a = true ↔ x ≤ a ∧ a ≤ y)) : ((List.range k).filter f).length = y + 1 - x := by
  have e : (List.range k).filter f = (List.range (y + 1 - x)).map (x + ·) := by
    obtain ⟨r, rfl⟩ : ∃ r, k = x + ((y + 1 - x) + r) := ⟨k - (y + 1), by omega⟩
    rw [List.range_add, List.range_add, List.filter_append, List.map_append, List.filter_append]
    have h1 : (List.range x).filter f = [] := List.filter_eq_nil_iff.2 (fun a ha hf => by
      have h1 := List.mem_range.1 ha
      have := (h a (by omega)).1 hf
      omega)
    have h2 : ((List.range (y + 1 - x)).map (x + ·)).filter f = (List.range (y + 1 - x)).map (x + ·) := List.filter_eq_self.2 (fun a ha => by
      obtain ⟨b, hb, rfl⟩ := List.mem_map.1 ha
      have h1 := List.mem_range.1 hb
      exact (h _ (by omega)).2 (by omega))
    have h3 : (((List.range r).map (y + 1 - x + ·)).map (x + ·)).filter f = [] := List.filter_eq_nil_iff.2 (fun a ha hf => by
      rw [List.map_map] at ha
      obtain ⟨b, hb, rfl⟩ := List.mem_map.1 ha
      have h1 := List.mem_range.1 hb
      simp only [Function.comp_apply] at hf
      have := (h _ (by omega)).1 hf
      omega)
    rw [h1, h2, h3]
    simp
  rw [e]; simp

/-- In an even order a club reaches from its first place to its last one. -/
theorem even_span {k : Nat} (hk : k ≤ 6) {zs : List Int} {p : List Nat} (hp : p ∈ lvlL k k) (he : brkC zs (nI p) = false) {z : Int} (hz : z ∈ zs) (hz2 : z.toNat < 2 ^ k) {x y : Nat} (hy : y < k)
    (h1 : atF z.toNat (nI p) x = true) (h2 : ∀ c, c < x → atF z.toNat (nI p) c = false) (h3 : atF z.toNat (nI p) y = true) (h4 : ∀ c, y < c → c < k → atF z.toNat (nI p) c = false) (hxy : x ≤ y) : cntK 8 z.toNat = y + 1 - x := by
  rw [← size_at hk hp hz2]
  refine range_between k x y hxy hy (fun a ha => ⟨fun hf => ⟨?_, ?_⟩, fun h => ?_⟩)
  · by_cases h : a < x
    · rw [h2 a h] at hf; cases hf
    · omega
  · by_cases h : y < a
    · rw [h4 a h ha] at hf; cases hf
    · omega
  · exact even_conv hk hp he hz x a y h.1 h.2 hy h1 h3

end Go.Proofs.YtacglafoahmcnaaDoor

/- It is proved that a drawn family and a drawn set are the call's own; conditions: those of each statement. -/
namespace Go.Proofs.YtacglafoahmcnaaDoor
open Go.RowKit

/-- A family of the call's own, and a number. -/
def DrawnTwo (w : World) (e : Ending) (W : World) : Prop :=
  ∃ (m : Int) (a : Option Addr) (zs : List Int) (c : Nat) (x : Int), e = .returned (.tuple #[.agg #[.int .i64 m, .slice a zs.length c], .int .i64 x]) ∧ zs.length ≤ 10 ∧ OwnI W w.heap.size (.slice a zs.length c) zs ∧ Below w.heap.size w W

theorem DS.belowR {w W : World} {R : Nat} {b : Option Addr} {n cap P B : Nat} (h : DS w R b n cap P W) (hB : B ≤ R) (hs : B ≤ w.heap.size) : Below B w W :=
  (Below.refl B w).grown h.gr hs (fun g e => by injection e with e; omega)

end Go.Proofs.YtacglafoahmcnaaDoor

/- It is proved what three appends in one statement make, in each order that Go allows; conditions: those of each statement. -/
namespace Go.Proofs.YtacglafoahmcnaaDoor
open Go.RowKit

theorem insA (W : World) (a1 a2 : Option Addr) (L1 L2 : List Int) (x : Int) (k1 c1 k2 c2 s t : Nat) (h1 : Ints W W.heap.size a1 L1) (h2 : Ints W W.heap.size a2 L2) (l1 : L1.length = k1) (l2 : L2.length = k2) (hs : k1 + 1 = s) (ht : s + k2 = t) (hk : t ≤ 1048576) :
    ∃ a3 c3 w3 a4 c4 w4 a5 c5 w5, (Builtin.append_ #[23, 23] 23 #[.slice (some ⟨W.heap.size, 0, none⟩) 0 0, .slice a1 k1 c1]).run Tryd.prog (W.alloc (.cells #[] 3)).drew = .ok (.slice a3 k1 c3) w3 ∧
      (Builtin.append_ #[23, 23] 23 #[.slice a3 k1 c3, .slice (some ⟨w3.heap.size, 0, none⟩) 1 1]).run Tryd.prog (w3.alloc (.cells #[.int .i64 x] 3)) = .ok (.slice a4 s c4) w4 ∧
      (Builtin.append_ #[23, 23] 23 #[.slice a4 s c4, .slice a2 k2 c2]).run Tryd.prog w4 = .ok (.slice a5 t c5) w5 ∧
      OwnN w5 W.heap.size a5 t c5 (L1 ++ [x] ++ L2) ∧ Below W.heap.size W w5 := by
  have hEA : OwnI (W.alloc (.cells #[] 3)).drew W.heap.size (.slice (some ⟨W.heap.size, 0, none⟩) 0 0) [] := own_empty (w := (W.alloc (.cells #[] 3)).drew) (alloc_new W _) (Nat.le_refl _)
  have hB0A : Below W.heap.size W (W.alloc (.cells #[] 3)).drew := (below1 W (.cells #[] 3)).drew
  obtain ⟨a3A, c3A, w3A, hr3A, ho3A, hg3A⟩ := app_run0n (k := k1) hEA hB0A.size a1 c1 L1 l1 ((h1.below hB0A).mono hB0A.size) (by omega)
  have hb3A : Below W.heap.size W w3A := hB0A.grown hg3A hB0A.size (fun g e => (World.ownsRow.lt hEA g e).1)
  have hX2A : Ints (w3A.alloc (.cells #[.int .i64 x] 3)) (w3A.alloc (.cells #[.int .i64 x] 3)).heap.size (some ⟨w3A.heap.size, 0, none⟩) [x] := one_ints0 w3A x
  have hO2A := ho3A.alloc (.cells #[.int .i64 x] 3)
  have hBW2A : Below W.heap.size W (w3A.alloc (.cells #[.int .i64 x] 3)) := hb3A.alloc hb3A.size _
  obtain ⟨a4A, c4A, w4A, hr4A, ho4A, hg4A⟩ := app_run_t (t := s) (k := 1) hO2A hBW2A.size (some ⟨w3A.heap.size, 0, none⟩) 1 [x] rfl hX2A (by omega) (by omega) (by omega)
  have hb4A : Below W.heap.size W w4A := hBW2A.grown hg4A hBW2A.size (fun g e => (World.ownsRow.lt hO2A g e).1)
  obtain ⟨a5A, c5A, w5A, hr5A, ho5A, hg5A⟩ := app_run_t (t := t) (k := k2) ho4A hb4A.size a2 c2 L2 l2 ((h2.below hb4A).mono hb4A.size) (by omega) (by omega) (by omega)
  have hb5A : Below W.heap.size W w5A := hb4A.grown hg5A hb4A.size (fun g e => (World.ownsRow.lt ho4A g e).1)
  exact ⟨_, _, _, _, _, _, _, _, _, hr3A, hr4A, hr5A, by unfold OwnN; rw [List.map_append, List.map_append]; simpa using ho5A, hb5A⟩

theorem insB (W : World) (a1 a2 : Option Addr) (L1 L2 : List Int) (x : Int) (k1 c1 k2 c2 s t : Nat) (h1 : Ints W W.heap.size a1 L1) (h2 : Ints W W.heap.size a2 L2) (l1 : L1.length = k1) (l2 : L2.length = k2) (hs : k1 + 1 = s) (ht : s + k2 = t) (hk : t ≤ 1048576) :
    ∃ a3 c3 w3 a4 c4 w4 a5 c5 w5, (Builtin.append_ #[23, 23] 23 #[.slice (some ⟨W.heap.size + 1, 0, none⟩) 0 0, .slice a1 k1 c1]).run Tryd.prog ((W.alloc (.cells #[.int .i64 x] 3)).alloc (.cells #[] 3)).drew = .ok (.slice a3 k1 c3) w3 ∧
      (Builtin.append_ #[23, 23] 23 #[.slice a3 k1 c3, .slice (some ⟨W.heap.size, 0, none⟩) 1 1]).run Tryd.prog w3 = .ok (.slice a4 s c4) w4 ∧
      (Builtin.append_ #[23, 23] 23 #[.slice a4 s c4, .slice a2 k2 c2]).run Tryd.prog w4 = .ok (.slice a5 t c5) w5 ∧
      OwnN w5 W.heap.size a5 t c5 (L1 ++ [x] ++ L2) ∧ Below W.heap.size W w5 := by
  have hEB : OwnI ((W.alloc (.cells #[.int .i64 x] 3)).alloc (.cells #[] 3)).drew W.heap.size (.slice (some ⟨W.heap.size + 1, 0, none⟩) 0 0) [] := own_empty (w := ((W.alloc (.cells #[.int .i64 x] 3)).alloc (.cells #[] 3)).drew) (alloc2_1 W _ _) (by omega)
  have hB0B : Below W.heap.size W ((W.alloc (.cells #[.int .i64 x] 3)).alloc (.cells #[] 3)).drew := (below2 W (.cells #[.int .i64 x] 3) (.cells #[] 3)).drew
  obtain ⟨a3B, c3B, w3B, hr3B, ho3B, hg3B⟩ := app_run0n (k := k1) hEB hB0B.size a1 c1 L1 l1 ((h1.below hB0B).mono hB0B.size) (by omega)
  have hb3B : Below W.heap.size W w3B := hB0B.grown hg3B hB0B.size (fun g e => (World.ownsRow.lt hEB g e).1)
  have hXbB : w3B.heap[W.heap.size]? = some (.cells #[.int .i64 x] 3 (0, 0)) := (hg3B.block W.heap.size (lt_of_some (W := ((W.alloc (.cells #[.int .i64 x] 3)).alloc (.cells #[] 3)).drew) (alloc2_0 W _ _)) (by simp [Value.ownBlock])).trans (alloc2_0 W _ _)
  have hX2B : Ints w3B w3B.heap.size (some ⟨W.heap.size, 0, none⟩) [x] := one_blk hXbB
  obtain ⟨a4B, c4B, w4B, hr4B, ho4B, hg4B⟩ := app_run_t (t := s) (k := 1) ho3B hb3B.size (some ⟨W.heap.size, 0, none⟩) 1 [x] rfl hX2B (by omega) (by omega) (by omega)
  have hb4B : Below W.heap.size W w4B := hb3B.grown hg4B hb3B.size (fun g e => (World.ownsRow.lt ho3B g e).1)
  obtain ⟨a5B, c5B, w5B, hr5B, ho5B, hg5B⟩ := app_run_t (t := t) (k := k2) ho4B hb4B.size a2 c2 L2 l2 ((h2.below hb4B).mono hb4B.size) (by omega) (by omega) (by omega)
  have hb5B : Below W.heap.size W w5B := hb4B.grown hg5B hb4B.size (fun g e => (World.ownsRow.lt ho4B g e).1)
  exact ⟨_, _, _, _, _, _, _, _, _, hr3B, hr4B, hr5B, by unfold OwnN; rw [List.map_append, List.map_append]; simpa using ho5B, hb5B⟩

theorem insC (W : World) (a1 a2 : Option Addr) (L1 L2 : List Int) (x : Int) (k1 c1 k2 c2 s t : Nat) (h1 : Ints W W.heap.size a1 L1) (h2 : Ints W W.heap.size a2 L2) (l1 : L1.length = k1) (l2 : L2.length = k2) (hs : k1 + 1 = s) (ht : s + k2 = t) (hk : t ≤ 1048576) :
    ∃ a3 c3 w3 a4 c4 w4 a5 c5 w5, (Builtin.append_ #[23, 23] 23 #[.slice (some ⟨W.heap.size, 0, none⟩) 0 0, .slice a1 k1 c1]).run Tryd.prog ((W.alloc (.cells #[] 3)).alloc (.cells #[.int .i64 x] 3)).drew = .ok (.slice a3 k1 c3) w3 ∧
      (Builtin.append_ #[23, 23] 23 #[.slice a3 k1 c3, .slice (some ⟨W.heap.size + 1, 0, none⟩) 1 1]).run Tryd.prog w3 = .ok (.slice a4 s c4) w4 ∧
      (Builtin.append_ #[23, 23] 23 #[.slice a4 s c4, .slice a2 k2 c2]).run Tryd.prog w4 = .ok (.slice a5 t c5) w5 ∧
      OwnN w5 W.heap.size a5 t c5 (L1 ++ [x] ++ L2) ∧ Below W.heap.size W w5 := by
  have hEC : OwnI ((W.alloc (.cells #[] 3)).alloc (.cells #[.int .i64 x] 3)).drew W.heap.size (.slice (some ⟨W.heap.size, 0, none⟩) 0 0) [] := own_empty (w := ((W.alloc (.cells #[] 3)).alloc (.cells #[.int .i64 x] 3)).drew) (alloc2_0 W _ _) (Nat.le_refl _)
  have hB0C : Below W.heap.size W ((W.alloc (.cells #[] 3)).alloc (.cells #[.int .i64 x] 3)).drew := (below2 W (.cells #[] 3) (.cells #[.int .i64 x] 3)).drew
  obtain ⟨a3C, c3C, w3C, hr3C, ho3C, hg3C⟩ := app_run0n (k := k1) hEC hB0C.size a1 c1 L1 l1 ((h1.below hB0C).mono hB0C.size) (by omega)
  have hb3C : Below W.heap.size W w3C := hB0C.grown hg3C hB0C.size (fun g e => (World.ownsRow.lt hEC g e).1)
  have hXbC : w3C.heap[(W.heap.size + 1)]? = some (.cells #[.int .i64 x] 3 (0, 0)) := (hg3C.block (W.heap.size + 1) (lt_of_some (W := ((W.alloc (.cells #[] 3)).alloc (.cells #[.int .i64 x] 3)).drew) (alloc2_1 W _ _)) (by simp [Value.ownBlock])).trans (alloc2_1 W _ _)
  have hX2C : Ints w3C w3C.heap.size (some ⟨(W.heap.size + 1), 0, none⟩) [x] := one_blk hXbC
  obtain ⟨a4C, c4C, w4C, hr4C, ho4C, hg4C⟩ := app_run_t (t := s) (k := 1) ho3C hb3C.size (some ⟨(W.heap.size + 1), 0, none⟩) 1 [x] rfl hX2C (by omega) (by omega) (by omega)
  have hb4C : Below W.heap.size W w4C := hb3C.grown hg4C hb3C.size (fun g e => (World.ownsRow.lt ho3C g e).1)
  obtain ⟨a5C, c5C, w5C, hr5C, ho5C, hg5C⟩ := app_run_t (t := t) (k := k2) ho4C hb4C.size a2 c2 L2 l2 ((h2.below hb4C).mono hb4C.size) (by omega) (by omega) (by omega)
  have hb5C : Below W.heap.size W w5C := hb4C.grown hg5C hb4C.size (fun g e => (World.ownsRow.lt ho4C g e).1)
  exact ⟨_, _, _, _, _, _, _, _, _, hr3C, hr4C, hr5C, by unfold OwnN; rw [List.map_append, List.map_append]; simpa using ho5C, hb5C⟩

end Go.Proofs.YtacglafoahmcnaaDoor

/- It is proved that drawn names are a list of the call's own; conditions: those of each statement. -/
namespace Go.Proofs.YtacglafoahmcnaaDoor
open Go.RowKit

/-- A list of so many numbers, of the call's own. -/
def DrawnP (w : World) (R : Nat) (b : Option Addr) (n cap P k : Nat) (e : Ending) (W : World) : Prop :=
  ∃ (a : Option Addr) (zs : List Int) (c : Nat), e = .returned (.slice a zs.length c) ∧ zs.length = k ∧ OwnI W w.heap.size (.slice a zs.length c) zs ∧ DS w R b n cap (P + 100) W

set_option maxRecDepth 100000 in
set_option maxHeartbeats 8000000 in
theorem namesD_any (R : Nat) (b : Option Addr) (n cap P k0 : Nat) (w : World) (hD : DS w R b n cap P w) (hB : Bys w R b n) (hR : R < w.heap.size) (hn : n ≤ 1048576) (hP : P ≤ 100000) (hk1 : 1 ≤ k0) (hk : k0 ≤ 6) :
    Calls Tryd.prog 79 #[.pointer (some ⟨R, 0, none⟩), .int .i64 (k0 : Int)] w (DrawnP w R b n cap P k0) := by
  have HD0 := Lib.hid (hD.alloc (.cells #[] 3) hR)
  have HB := Lib.hid hB
  have HE0 : Hid (OwnN (w.alloc (.cells #[] 3)) w.heap.size (some ⟨w.heap.size, 0, none⟩) 0 0 []) := Lib.hid (own_empty (alloc_new w _) (Nat.le_refl _))
  clear hD hB
  go_enter Tryd.func79, Tryd.ntmps79
  go_wp2
  go_loopw [5, 6] (fun v i wr => ∃ (j g cc : Nat) (L : List Int), j ≤ k0 ∧ i = .int .i64 (j : Int) ∧ v = .slice (some ⟨g, 0, none⟩) j cc ∧ L.length = j ∧ j ≤ cc ∧ OwnN wr w.heap.size (some ⟨g, 0, none⟩) j cc L ∧ DS w R b n cap (P + j) wr) (fun _ i _ => k0 - (intOf i).toNat)
  case atStart => exact ⟨0, w.heap.size, 0, [], Nat.zero_le _, rfl, rfl, rfl, Nat.le_refl _, HE0.out, HD0.out⟩
  case round =>
    obtain ⟨j, g, cc, L, hj, rfl, rfl, hL, hjc, ho, hd⟩ := hrel
    obtain ⟨wo, hwo⟩ : ∃ wo, wo = wr := ⟨wr, rfl⟩
    subst hwo
    have HO0 := Lib.hid ho
    have HD := Lib.hid hd
    have HL := Lib.hid hL
    clear ho hd hL
    by_cases hlt : j < k0
    · go_wp2_with fail
      refine (pickX HD.out HB.out hR hn (by omega) _).mono ?_
      rintro e wk ⟨k, rfl, hk9, D4, g4⟩
      have hkj : k ≤ j := by have := hk9 (by omega); omega
      have HO : Hid (OwnN wk w.heap.size (some ⟨g, 0, none⟩) j cc L) := Lib.hid (own_grown HO0.out g4 hR)
      have HDk := Lib.hid D4
      have hL := HL.out
      have hwk : w.heap.size ≤ wk.heap.size := D4.gr.size
      have HFIN : Hid (∀ (wz : World) (a5 : Option Addr) (c5 : Nat) (L5 : List Int), OwnN wz wk.heap.size a5 (j + 1) c5 L5 → Below wk.heap.size wk wz → ∃ (j' g' cc' : Nat) (L' : List Int), j' ≤ k0 ∧ Value.int .i64 ((j : Int) + 1) = .int .i64 (j' : Int) ∧ Value.slice a5 (j + 1) c5 = .slice (some ⟨g', 0, none⟩) j' cc' ∧ L'.length = j' ∧ j' ≤ cc' ∧ OwnN wz w.heap.size (some ⟨g', 0, none⟩) j' cc' L' ∧ DS w R b n cap (P + j') wz) := Lib.hid (fun wz a5 c5 L5 h5 hb5 => by
        obtain ⟨g', rfl, -, -⟩ := h5.addr (by omega)
        exact ⟨j + 1, g', c5, L5, by omega, by simp, rfl, h5.len, h5.cap_le, h5.base hwk, (HDk.out.step (only_of_below hb5 none) (fun g e => by cases e) hR).mono (by omega)⟩)
      have hkI : (k : Int) ≤ (j : Int) := by omega
      have hkcI : (k : Int) ≤ (cc : Int) := by omega
      have hjcI : (j : Int) ≤ (cc : Int) := by omega
      have hk00 : (0 : Int) ≤ (k : Int) := by omega
      clear D4 g4 HD HO0 hk9
      by_cases hkc : k = cc
      · obtain rfl : j = k := by omega
        subst hkc
        have hI1 := (HO.out.ints).take_ j
        have HI1 : Hid (Ints wk wk.heap.size (some ⟨g, 0, none⟩) (L.take j)) := Lib.hid hI1
        have HI2 : Hid (Ints wk wk.heap.size (some ⟨g, 0, none⟩) (L.drop j)) := Lib.hid (by rw [List.drop_eq_nil_of_le (by omega)]; exact .inl rfl)
        have hl1 : (L.take j).length = j := by rw [List.length_take]; omega
        have hl2 : (L.drop j).length = 0 := by rw [List.length_drop]; omega
        clear hI1
        obtain ⟨a3A, c3A, w3A, a4A, c4A, w4A, a5A, c5A, w5A, hr3A, hr4A, hr5A, ho5A, hb5A⟩ := insA wk (some ⟨g, 0, none⟩) (some ⟨g, 0, none⟩) (L.take j) (L.drop j) (j : Int) j j 0 0 (j + 1) (j + 1) HI1.out HI2.out hl1 hl2 rfl (by omega) (by omega)
        obtain ⟨a3B, c3B, w3B, a4B, c4B, w4B, a5B, c5B, w5B, hr3B, hr4B, hr5B, ho5B, hb5B⟩ := insB wk (some ⟨g, 0, none⟩) (some ⟨g, 0, none⟩) (L.take j) (L.drop j) (j : Int) j j 0 0 (j + 1) (j + 1) HI1.out HI2.out hl1 hl2 rfl (by omega) (by omega)
        obtain ⟨a3C, c3C, w3C, a4C, c4C, w4C, a5C, c5C, w5C, hr3C, hr4C, hr5C, ho5C, hb5C⟩ := insC wk (some ⟨g, 0, none⟩) (some ⟨g, 0, none⟩) (L.take j) (L.drop j) (j : Int) j j 0 0 (j + 1) (j + 1) HI1.out HI2.out hl1 hl2 rfl (by omega) (by omega)
        have HR3A := Lib.hid hr3A
        have HR4A := Lib.hid hr4A
        have HR5A := Lib.hid hr5A
        have HO5A := Lib.hid ho5A
        have HB5A := Lib.hid hb5A
        clear hr3A hr4A hr5A ho5A hb5A
        have HR3B := Lib.hid hr3B
        have HR4B := Lib.hid hr4B
        have HR5B := Lib.hid hr5B
        have HO5B := Lib.hid ho5B
        have HB5B := Lib.hid hb5B
        clear hr3B hr4B hr5B ho5B hb5B
        have HR3C := Lib.hid hr3C
        have HR4C := Lib.hid hr4C
        have HR5C := Lib.hid hr5C
        have HO5C := Lib.hid ho5C
        have HB5C := Lib.hid hb5C
        clear hr3C hr4C hr5C ho5C hb5C
        have HL1 := Lib.hid hl1
        have HL2 := Lib.hid hl2
        clear hl1 hl2
        go_wp2_with fail
        go_region_held3 (fun _ => True)
          (trivial)
          (first
            | ((with_reducible refine step_run3 (w := (wk.alloc (.cells #[] 3)).drew) (.tmp 19) (.tmp 22) 23 23 (.slice (some ⟨wk.heap.size, 0, none⟩) 0 0) (.slice (some ⟨g, 0, none⟩) j j) ?_ ?_ ?_ ?_ ?_); rfl; rfl; rfl; rfl; refine ⟨_, _, HR3A.out, ?_⟩)
            | ((with_reducible refine step_run3 (w := ((wk.alloc (.cells #[.int .i64 (j : Int)] 3)).alloc (.cells #[] 3)).drew) (.tmp 19) (.tmp 22) 23 23 (.slice (some ⟨wk.heap.size + 1, 0, none⟩) 0 0) (.slice (some ⟨g, 0, none⟩) j j) ?_ ?_ ?_ ?_ ?_); rfl; rfl; rfl; rfl; refine ⟨_, _, HR3B.out, ?_⟩)
            | ((with_reducible refine step_run3 (w := ((wk.alloc (.cells #[] 3)).alloc (.cells #[.int .i64 (j : Int)] 3)).drew) (.tmp 19) (.tmp 22) 23 23 (.slice (some ⟨wk.heap.size, 0, none⟩) 0 0) (.slice (some ⟨g, 0, none⟩) j j) ?_ ?_ ?_ ?_ ?_); rfl; rfl; rfl; rfl; refine ⟨_, _, HR3C.out, ?_⟩)
            | ((with_reducible refine step_run3 (w := (w3A.alloc (.cells #[.int .i64 (j : Int)] 3))) (.tmp 23) (.tmp 25) 23 23 (.slice a3A j c3A) (.slice (some ⟨w3A.heap.size, 0, none⟩) 1 1) ?_ ?_ ?_ ?_ ?_); rfl; rfl; rfl; rfl; refine ⟨_, _, HR4A.out, ?_⟩)
            | ((with_reducible refine step_run3 (w := w3B) (.tmp 23) (.tmp 25) 23 23 (.slice a3B j c3B) (.slice (some ⟨wk.heap.size, 0, none⟩) 1 1) ?_ ?_ ?_ ?_ ?_); rfl; rfl; rfl; rfl; refine ⟨_, _, HR4B.out, ?_⟩)
            | ((with_reducible refine step_run3 (w := w3C) (.tmp 23) (.tmp 25) 23 23 (.slice a3C j c3C) (.slice (some ⟨(wk.heap.size + 1), 0, none⟩) 1 1) ?_ ?_ ?_ ?_ ?_); rfl; rfl; rfl; rfl; refine ⟨_, _, HR4C.out, ?_⟩)
            | ((with_reducible refine step_run3 (w := w4A) (.tmp 26) (.tmp 29) 23 23 (.slice a4A (j + 1) c4A) (.slice (some ⟨g, 0, none⟩) 0 0) ?_ ?_ ?_ ?_ ?_); rfl; rfl; rfl; rfl; refine ⟨_, _, HR5A.out, ?_⟩)
            | ((with_reducible refine step_run3 (w := w4B) (.tmp 26) (.tmp 29) 23 23 (.slice a4B (j + 1) c4B) (.slice (some ⟨g, 0, none⟩) 0 0) ?_ ?_ ?_ ?_ ?_); rfl; rfl; rfl; rfl; refine ⟨_, _, HR5B.out, ?_⟩)
            | ((with_reducible refine step_run3 (w := w4C) (.tmp 26) (.tmp 29) 23 23 (.slice a4C (j + 1) c4C) (.slice (some ⟨g, 0, none⟩) 0 0) ?_ ?_ ?_ ?_ ?_); rfl; rfl; rfl; rfl; refine ⟨_, _, HR5C.out, ?_⟩))
        all_goals first
          | (go_wp2
             go_roundw
             case rel => exact HFIN.out w5A a5A c5A _ HO5A.out HB5A.out
             case measure => simp [intOf]; omega)
          | (go_wp2
             go_roundw
             case rel => exact HFIN.out w5B a5B c5B _ HO5B.out HB5B.out
             case measure => simp [intOf]; omega)
          | (go_wp2
             go_roundw
             case rel => exact HFIN.out w5C a5C c5C _ HO5C.out HB5C.out
             case measure => simp [intOf]; omega)
      · have hkc3 : k < cc := by omega
        have hI1 := (HO.out.ints).take_ k
        have HI1 : Hid (Ints wk wk.heap.size (some ⟨g, 0, none⟩) (L.take k)) := Lib.hid hI1
        have HI2 : Hid (Ints wk wk.heap.size (some ⟨g, k, none⟩) (L.drop k)) := Lib.hid (by
          by_cases hkj : k < j
          · have := (HO.out.ints).drop_ k (by omega); rwa [Nat.zero_add] at this
          · rw [List.drop_eq_nil_of_le (by omega)]; exact .inl rfl)
        have hl1 : (L.take k).length = k := by rw [List.length_take]; omega
        have hl2 : (L.drop k).length = j - k := by rw [List.length_drop]; omega
        have hkc2 : (k : Int) < (cc : Int) := by omega
        have hne : ¬ cc = k := by omega
        clear hI1
        obtain ⟨a3A, c3A, w3A, a4A, c4A, w4A, a5A, c5A, w5A, hr3A, hr4A, hr5A, ho5A, hb5A⟩ := insA wk (some ⟨g, 0, none⟩) (some ⟨g, k, none⟩) (L.take k) (L.drop k) (j : Int) k cc (j - k) (cc - k) (k + 1) (j + 1) HI1.out HI2.out hl1 hl2 rfl (by omega) (by omega)
        obtain ⟨a3B, c3B, w3B, a4B, c4B, w4B, a5B, c5B, w5B, hr3B, hr4B, hr5B, ho5B, hb5B⟩ := insB wk (some ⟨g, 0, none⟩) (some ⟨g, k, none⟩) (L.take k) (L.drop k) (j : Int) k cc (j - k) (cc - k) (k + 1) (j + 1) HI1.out HI2.out hl1 hl2 rfl (by omega) (by omega)
        obtain ⟨a3C, c3C, w3C, a4C, c4C, w4C, a5C, c5C, w5C, hr3C, hr4C, hr5C, ho5C, hb5C⟩ := insC wk (some ⟨g, 0, none⟩) (some ⟨g, k, none⟩) (L.take k) (L.drop k) (j : Int) k cc (j - k) (cc - k) (k + 1) (j + 1) HI1.out HI2.out hl1 hl2 rfl (by omega) (by omega)
        have HR3A := Lib.hid hr3A
        have HR4A := Lib.hid hr4A
        have HR5A := Lib.hid hr5A
        have HO5A := Lib.hid ho5A
        have HB5A := Lib.hid hb5A
        clear hr3A hr4A hr5A ho5A hb5A
        have HR3B := Lib.hid hr3B
        have HR4B := Lib.hid hr4B
        have HR5B := Lib.hid hr5B
        have HO5B := Lib.hid ho5B
        have HB5B := Lib.hid hb5B
        clear hr3B hr4B hr5B ho5B hb5B
        have HR3C := Lib.hid hr3C
        have HR4C := Lib.hid hr4C
        have HR5C := Lib.hid hr5C
        have HO5C := Lib.hid ho5C
        have HB5C := Lib.hid hb5C
        clear hr3C hr4C hr5C ho5C hb5C
        have HL1 := Lib.hid hl1
        have HL2 := Lib.hid hl2
        clear hl1 hl2
        go_wp2_with fail
        go_region_held3 (fun _ => True)
          (trivial)
          (first
            | ((with_reducible refine step_run3 (w := (wk.alloc (.cells #[] 3)).drew) (.tmp 19) (.tmp 22) 23 23 (.slice (some ⟨wk.heap.size, 0, none⟩) 0 0) (.slice (some ⟨g, 0, none⟩) k cc) ?_ ?_ ?_ ?_ ?_); rfl; rfl; rfl; rfl; refine ⟨_, _, HR3A.out, ?_⟩)
            | ((with_reducible refine step_run3 (w := ((wk.alloc (.cells #[.int .i64 (j : Int)] 3)).alloc (.cells #[] 3)).drew) (.tmp 19) (.tmp 22) 23 23 (.slice (some ⟨wk.heap.size + 1, 0, none⟩) 0 0) (.slice (some ⟨g, 0, none⟩) k cc) ?_ ?_ ?_ ?_ ?_); rfl; rfl; rfl; rfl; refine ⟨_, _, HR3B.out, ?_⟩)
            | ((with_reducible refine step_run3 (w := ((wk.alloc (.cells #[] 3)).alloc (.cells #[.int .i64 (j : Int)] 3)).drew) (.tmp 19) (.tmp 22) 23 23 (.slice (some ⟨wk.heap.size, 0, none⟩) 0 0) (.slice (some ⟨g, 0, none⟩) k cc) ?_ ?_ ?_ ?_ ?_); rfl; rfl; rfl; rfl; refine ⟨_, _, HR3C.out, ?_⟩)
            | ((with_reducible refine step_run3 (w := (w3A.alloc (.cells #[.int .i64 (j : Int)] 3))) (.tmp 23) (.tmp 25) 23 23 (.slice a3A k c3A) (.slice (some ⟨w3A.heap.size, 0, none⟩) 1 1) ?_ ?_ ?_ ?_ ?_); rfl; rfl; rfl; rfl; refine ⟨_, _, HR4A.out, ?_⟩)
            | ((with_reducible refine step_run3 (w := w3B) (.tmp 23) (.tmp 25) 23 23 (.slice a3B k c3B) (.slice (some ⟨wk.heap.size, 0, none⟩) 1 1) ?_ ?_ ?_ ?_ ?_); rfl; rfl; rfl; rfl; refine ⟨_, _, HR4B.out, ?_⟩)
            | ((with_reducible refine step_run3 (w := w3C) (.tmp 23) (.tmp 25) 23 23 (.slice a3C k c3C) (.slice (some ⟨(wk.heap.size + 1), 0, none⟩) 1 1) ?_ ?_ ?_ ?_ ?_); rfl; rfl; rfl; rfl; refine ⟨_, _, HR4C.out, ?_⟩)
            | ((with_reducible refine step_run3 (w := w4A) (.tmp 26) (.tmp 29) 23 23 (.slice a4A (k + 1) c4A) (.slice (some ⟨g, k, none⟩) (j - k) (cc - k)) ?_ ?_ ?_ ?_ ?_); rfl; rfl; rfl; rfl; refine ⟨_, _, HR5A.out, ?_⟩)
            | ((with_reducible refine step_run3 (w := w4B) (.tmp 26) (.tmp 29) 23 23 (.slice a4B (k + 1) c4B) (.slice (some ⟨g, k, none⟩) (j - k) (cc - k)) ?_ ?_ ?_ ?_ ?_); rfl; rfl; rfl; rfl; refine ⟨_, _, HR5B.out, ?_⟩)
            | ((with_reducible refine step_run3 (w := w4C) (.tmp 26) (.tmp 29) 23 23 (.slice a4C (k + 1) c4C) (.slice (some ⟨g, k, none⟩) (j - k) (cc - k)) ?_ ?_ ?_ ?_ ?_); rfl; rfl; rfl; rfl; refine ⟨_, _, HR5C.out, ?_⟩))
        all_goals first
          | (go_wp2
             go_roundw
             case rel => exact HFIN.out w5A a5A c5A _ HO5A.out HB5A.out
             case measure => simp [intOf]; omega)
          | (go_wp2
             go_roundw
             case rel => exact HFIN.out w5B a5B c5B _ HO5B.out HB5B.out
             case measure => simp [intOf]; omega)
          | (go_wp2
             go_roundw
             case rel => exact HFIN.out w5C a5C c5C _ HO5C.out HB5C.out
             case measure => simp [intOf]; omega)
    · obtain rfl : j = k0 := by omega
      have HR : Hid (∃ p, p ≤ P + j ∧ Rd wo R b n cap p) := Lib.hid HD.out.rd
      go_wp2_with fail
      refine (pickX HD.out HB.out hR hn (by omega) _).mono ?_
      rintro e wk ⟨r, rfl, -, D4, g4⟩
      have HO : Hid (OwnN wk w.heap.size (some ⟨g, 0, none⟩) j cc L) := Lib.hid (own_grown HO0.out g4 hR)
      have HDk := Lib.hid D4
      clear D4 g4 HD HO0
      obtain ⟨h, hh⟩ : ∃ h, h = L[0]?.getD 0 := ⟨_, rfl⟩
      have hc0 : wk.cell? ⟨g, 0, none⟩ = some (.int .i64 h) := by rw [hh]; exact HO.out.cell (by omega)
      have hfz := World.ownsRow.frozenAt HO.out 0
      have hgB : w.heap.size ≤ g := by obtain ⟨g', e, h, -⟩ := HO.out.addr (by omega); injection e with e; injection e with e; subst e; exact h
      clear hh
      by_cases hr : r = 0
      · subst hr
        have hj0 : (0 : Int) < (j : Int) := by omega
        go_wp2
        go_ret
        refine ⟨some ⟨g, 0, none⟩, L.set 0 (j : Int), cc, by rw [List.length_set, HL.out]; rfl, by rw [List.length_set, HL.out], ?_, (HDk.out.step (only_setCell (p := ⟨g, 0, none⟩) (World.grownBy.refl _ (some g)) rfl _) (fun g' e => by injection e; omega) hR).mono (by omega)⟩
        have h1 := (World.ownsRow.stored HO.out 0 (.int .i64 (j : Int))).1
        rw [← List.map_set] at h1
        unfold OwnI
        rw [List.length_set, HL.out]
        exact h1
      · have hr2 : ((r : Int) == 0) = false := by simp; omega
        go_wp2
        go_ret
        exact ⟨some ⟨g, 0, none⟩, L, cc, by rw [HL.out]; rfl, HL.out, by unfold OwnI; rw [HL.out]; exact HO.out, HDk.out.mono (by omega)⟩

end Go.Proofs.YtacglafoahmcnaaDoor
