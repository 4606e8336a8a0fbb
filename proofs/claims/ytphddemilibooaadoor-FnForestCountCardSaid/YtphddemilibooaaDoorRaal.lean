/- It is proved what least covers are, and that a list between the least covers and the covers has just them as its least sets; conditions: those of each statement. -/
import Derived.Test.YtphddemilibooaaDoorRows
import Derived.WalkKit
import Derived.WalkSpells
import Derived.ProofKit
import Derived.OpenShut
import Derived.ShutString
import Derived.ChangeOld
import Derived.Below
import Derived.Deep.RegionHeld3
import Derived.Deep.QuietTactic
import Derived.BigQuiet
import Derived.Lib.Hide
import Derived.Lib.SmallJoins
import Derived.Outline
import Derived.Laws.MakeOwn
import Derived.Laws.OwnMore
import Derived.IntWalk
import Derived.Lib.AppendZeros
import Derived.Maps.AppendAt
import Derived.Deep.AppendLies
import Derived.OwnWalk
import Derived.Lib.SlicesCompact
import Derived.Lib.OwnBridge
import Derived.Shelf.Sort.Plain
import Derived.Shelf.Slices.In.SortNone
import Derived.Shelf.Slices.CompactI
import Derived.Ground.Names2Prog
import Derived.Lib.SliceRun
import Derived.RangeFuncNested
import Derived.RangeFuncBound
import Derived.RangeFuncCalls
import Derived.RangeFuncLeaves
import Derived.RangeFuncBox
import Derived.Shelf.Abstract
import Derived.Shelf.RegionOpen
import Derived.OwnWalkIn
import Derived.TacticsInMore
import Derived.LoopNIn
import Derived.LoopIn
import Derived.StillTail
import Derived.StillTactics
import Derived.OrdersIn
import Derived.TacticsIn
import Derived.Shelf.Spec.TrailingZeros
import Derived.StillTailTactics
import Derived.Test.YtphddemilibooaaDoorRaab
import Derived.Test.YtphddemilibooaaDoorRaai
import Derived.Test.YtphddemilibooaaDoorRaac
import Derived.Test.YtphddemilibooaaDoorRaae
import Derived.Test.YtphddemilibooaaDoorRaaj
import Derived.Test.YtphddemilibooaaDoorTb
import Derived.RowKit
import Derived.Laws.CopyRow
import Derived.Lib.SlBuf
import Derived.RangeFuncWrites
import Derived.Maps.OwnIn
import Derived.Maps.Ext
import Derived.DeepKeys4
import Derived.MapKept
namespace Go.Proofs.YtphddemilibooaaDoor
open Go.RowKit

/-- All clubs have a member of a set. -/
def covB (zs : List Int) (s : Nat) : Bool := zs.all fun z => z.toNat &&& s != 0

theorem covB_iff {zs : List Int} {s : Nat} : covB zs s = true ↔ ∀ z ∈ zs, z.toNat &&& s ≠ 0 := by simp [covB]
theorem covB_mono {zs : List Int} {s t : Nat} (h : covB zs s = true) (hs : s &&& t = s) : covB zs t = true := by
  rw [covB_iff] at h ⊢
  intro z hz e
  refine h z hz ?_
  rw [← hs, Nat.and_comm s t, ← Nat.and_assoc, e, Nat.zero_and]

set_option maxRecDepth 100000 in
theorem wo_sub_fin : ∀ t s : Fin 64, ∀ v : Fin 6, t.val &&& s.val = t.val → t.val.testBit v.val = false → t.val &&& woP s.val v.val = t.val := by decide +kernel

set_option maxRecDepth 100000 in
theorem wo_part_fin : ∀ s : Fin 64, ∀ v : Fin 6, woP s.val v.val &&& s.val = woP s.val v.val ∧ (woP s.val v.val).testBit v.val = false ∧ (s.val.testBit v.val = true → woP s.val v.val < s.val) ∧ (s.val.testBit v.val = false → woP s.val v.val = s.val) := by decide +kernel

theorem wo_sub {t s v : Nat} (ht : t < 64) (hs : s < 64) (hv : v < 6) (h : t &&& s = t) (hb : t.testBit v = false) : t &&& woP s v = t := wo_sub_fin ⟨t, ht⟩ ⟨s, hs⟩ ⟨v, hv⟩ h hb
theorem wo_part {s v : Nat} (hs : s < 64) (hv : v < 6) : woP s v &&& s = woP s v ∧ (woP s v).testBit v = false ∧ (s.testBit v = true → woP s v < s) ∧ (s.testBit v = false → woP s v = s) := wo_part_fin ⟨s, hs⟩ ⟨v, hv⟩
theorem sub_lt {t s : Nat} (h : t &&& s = t) : t ≤ s := by rw [← h]; exact Nat.and_le_right
/-- A smaller part misses some member. -/
theorem sub_miss {t s m : Nat} (hs : s < 2 ^ m) (h : t &&& s = t) (hne : t ≠ s) : ∃ v, v < m ∧ s.testBit v = true ∧ t.testBit v = false := by
  refine Classical.byContradiction fun hno => hne ?_
  apply Nat.eq_of_testBit_eq
  intro v
  have h1 : t.testBit v = (t.testBit v && s.testBit v) := by rw [← Nat.testBit_and, h]
  cases hsv : s.testBit v
  · rw [h1, hsv, Bool.and_false]
  · cases htv : t.testBit v
    · exfalso
      refine hno ⟨v, ?_, hsv, htv⟩
      refine Classical.byContradiction fun hvm => ?_
      have : s.testBit v = false := Nat.testBit_lt_two_pow (Nat.lt_of_lt_of_le hs (Nat.pow_le_pow_right (by decide) (by omega)))
      rw [this] at hsv; cases hsv
    · rfl

theorem p64 {m s : Nat} (hm : m ≤ 6) (hs : s < 2 ^ m) : s < 64 := Nat.lt_of_lt_of_le hs (Nat.pow_le_pow_right (n := 2) (by decide) hm)
/-- A cover of which no smaller part is one. -/
def minB (m : Nat) (zs : List Int) (s : Nat) : Bool := covB zs s && (List.range m).all fun v => !(s.testBit v) || !covB zs (woP s v)

theorem minB_iff {m : Nat} (hm : m ≤ 6) {zs : List Int} {s : Nat} (hs : s < 2 ^ m) : minB m zs s = true ↔ covB zs s = true ∧ ∀ t, covB zs t = true → t &&& s = t → t = s := by
  have hs6 := p64 hm hs
  rw [minB, Bool.and_eq_true]
  constructor
  · rintro ⟨h1, h2⟩
    refine ⟨h1, fun t ht hts => Classical.byContradiction fun hne => ?_⟩
    obtain ⟨v, hv, hsv, htv⟩ := sub_miss hs hts hne
    have h3 := List.all_eq_true.1 h2 v (List.mem_range.2 hv)
    rw [hsv, covB_mono ht (wo_sub (Nat.lt_of_le_of_lt (sub_lt hts) hs6) hs6 (by omega) hts htv)] at h3
    cases h3
  · rintro ⟨h1, h2⟩
    refine ⟨h1, List.all_eq_true.2 fun v hv => ?_⟩
    rw [List.mem_range] at hv
    obtain ⟨w1, w2, w3, w4⟩ := wo_part hs6 (show v < 6 by omega)
    cases hsv : s.testBit v
    · rfl
    · cases hc : covB zs (woP s v)
      · rfl
      · have := h2 _ hc w1
        have := w3 hsv
        omega

theorem min_below {m : Nat} (hm : m ≤ 6) {zs : List Int} : ∀ (n s : Nat), s ≤ n → s < 2 ^ m → covB zs s = true → ∃ t, t &&& s = t ∧ t < 2 ^ m ∧ minB m zs t = true
  | 0, s, hn, hs, hc => ⟨s, by simp, hs, by
      have : s = 0 := by omega
      subst this
      rw [minB_iff hm hs]
      exact ⟨hc, fun t _ h => by simpa using h.symm⟩⟩
  | n + 1, s, hn, hs, hc => by
    by_cases h : minB m zs s = true
    · exact ⟨s, by simp, hs, h⟩
    · have hs6 := p64 hm hs
      rw [minB, hc, Bool.true_and, List.all_eq_true] at h
      obtain ⟨v, hv, hsv, hcv⟩ : ∃ v, v < m ∧ s.testBit v = true ∧ covB zs (woP s v) = true := Classical.byContradiction fun hno => h fun v hv => by
        rw [List.mem_range] at hv
        cases h1 : s.testBit v
        · rfl
        · cases h2 : covB zs (woP s v)
          · rfl
          · exact absurd ⟨v, hv, h1, h2⟩ hno
      obtain ⟨w1, w2, w3, w4⟩ := wo_part hs6 (show v < 6 by omega)
      have hlt := w3 hsv
      obtain ⟨t, h1, h2, h3⟩ := min_below hm n (woP s v) (by omega) (by omega) hcv
      refine ⟨t, ?_, h2, h3⟩
      rw [← h1, Nat.and_assoc, w1]

/-- The least covers, in order. -/
def lcL (m : Nat) (zs : List Int) : List Int := ((List.range (2 ^ m)).filter (minB m zs)).map fun s => ((s : Nat) : Int)

theorem lcL_mem {m : Nat} {zs : List Int} {x : Int} : x ∈ lcL m zs ↔ ∃ s : Nat, x = (s : Int) ∧ s < 2 ^ m ∧ minB m zs s = true := by
  simp only [lcL, List.mem_map, List.mem_filter, List.mem_range]
  constructor
  · rintro ⟨s, ⟨h1, h2⟩, rfl⟩; exact ⟨s, rfl, h1, h2⟩
  · rintro ⟨s, rfl, h1, h2⟩; exact ⟨s, ⟨h1, h2⟩, rfl⟩

theorem range_asc (n : Nat) (p : Nat → Bool) : Asc (((List.range n).filter p).map fun s => ((s : Nat) : Int)) := by
  unfold Asc
  rw [List.pairwise_map]
  refine (List.Pairwise.filter _ List.pairwise_lt_range).imp ?_
  intro a b h; omega

theorem lcL_asc (m : Nat) (zs : List Int) : Asc (lcL m zs) := range_asc _ _
theorem lcL_len {m : Nat} (hm : m ≤ 6) (zs : List Int) : (lcL m zs).length ≤ 64 := by
  unfold lcL
  rw [List.length_map]
  refine Nat.le_trans (List.length_filter_le _ _) ?_
  rw [List.length_range]
  exact Nat.pow_le_pow_right (n := 2) (by decide) hm

theorem lcL_in {m : Nat} (hm : m ≤ 6) {zs : List Int} : ∀ x ∈ lcL m zs, 0 ≤ x ∧ x < 64 := fun x hx => by
  obtain ⟨s, rfl, h, -⟩ := lcL_mem.1 hx
  have := p64 hm h
  omega

/-- A list between the least covers and the covers has just the least covers as its least sets. -/
theorem between {m : Nat} (hm : m ≤ 6) {zs L : List Int} (h1 : ∀ x ∈ L, ∃ s : Nat, x = (s : Int) ∧ s < 2 ^ m ∧ covB zs s = true) (h2 : ∀ s, s < 2 ^ m → minB m zs s = true → ((s : Nat) : Int) ∈ L) : unbeaten leG L = lcL m zs := by
  refine asc_ext _ _ (unbeaten_asc _ _) (lcL_asc _ _) fun x => ?_
  rw [unbeaten_mem, lcL_mem]
  constructor
  · rintro ⟨hx, hb⟩
    obtain ⟨s, rfl, hs, hc⟩ := h1 x hx
    refine ⟨s, rfl, hs, ?_⟩
    obtain ⟨t, ht1, ht2, ht3⟩ := min_below hm s s (Nat.le_refl _) hs hc
    have hb2 := List.any_eq_false.1 hb _ (h2 t ht2 ht3)
    by_cases e : t = s
    · rwa [← e]
    · exfalso
      refine hb2 ?_
      rw [beatBy, leG_nat t s (p64 hm ht2) (p64 hm hs), decide_eq_true ht1, Bool.and_true, bne_iff_ne]
      omega
  · rintro ⟨s, rfl, hs, h⟩
    refine ⟨h2 s hs h, List.any_eq_false.2 fun o ho hbo => ?_⟩
    obtain ⟨t, rfl, ht, hc⟩ := h1 o ho
    rw [beatBy, leG_nat t s (p64 hm ht) (p64 hm hs), Bool.and_eq_true, decide_eq_true_eq, bne_iff_ne] at hbo
    exact hbo.1 (by rw [((minB_iff hm hs).1 h).2 t hc hbo.2])

/-- All covers, in order. -/
def covL (m : Nat) (zs : List Int) : List Int := ((List.range (2 ^ m)).filter (covB zs)).map fun s => ((s : Nat) : Int)

theorem covL_least {m : Nat} (hm : m ≤ 6) (zs : List Int) : unbeaten leG (covL m zs) = lcL m zs := by
  refine between hm (fun x hx => ?_) (fun s hs h => ?_)
  · simp only [covL, List.mem_map, List.mem_filter, List.mem_range] at hx
    obtain ⟨s, ⟨h1, h2⟩, rfl⟩ := hx
    exact ⟨s, rfl, h1, h2⟩
  · simp only [covL, List.mem_map, List.mem_filter, List.mem_range]
    rw [minB, Bool.and_eq_true] at h
    exact ⟨s, ⟨hs, h.1⟩, rfl⟩

theorem meet_bit {a b : Nat} : a &&& b ≠ 0 ↔ ∃ v, a.testBit v = true ∧ b.testBit v = true := by
  constructor
  · intro h
    obtain ⟨v, hv⟩ := Nat.exists_testBit_of_ne_zero h
    rw [Nat.testBit_and, Bool.and_eq_true] at hv
    exact ⟨v, hv⟩
  · rintro ⟨v, h1, h2⟩ e
    have : (a &&& b).testBit v = true := by rw [Nat.testBit_and, h1, h2]; rfl
    rw [e] at this; simp at this

theorem mem_bit2 {s v : Nat} (hs : s < 64) : v ∈ mem s ↔ s.testBit v = true := by
  simp only [mem, List.mem_filter, List.mem_range]
  refine ⟨fun h => h.2, fun h => ⟨?_, h⟩⟩
  refine Classical.byContradiction fun hv => ?_
  have : s.testBit v = false := Nat.testBit_lt_two_pow (Nat.lt_of_lt_of_le hs (Nat.pow_le_pow_right (n := 2) (i := 6) (by decide) (by omega)))
  rw [this] at h; cases h

end Go.Proofs.YtphddemilibooaaDoor

/- It is proved what ownNames and keeping return; conditions: those of each statement. -/
namespace Go.Proofs.YtphddemilibooaaDoor
open Go.RowKit Go.Shelf Go.Maps

attribute [local go_sem] Oper.semAt_some

theorem slice_form {w' : World} {B k : Nat} {v : Value} {ys : List Value} (h : w'.ownsRow B 3 1 v k ys) : ∃ a c, v = .slice a k c := by
  rcases h.2 with ⟨rfl, rfl⟩ | ⟨g, cap, cur, rfl, _⟩
  · exact ⟨none, 0, rfl⟩
  · exact ⟨_, _, rfl⟩

end Go.Proofs.YtphddemilibooaaDoor

/- It is proved what a loop over a function does where the function keeps its state in cells of its own and the body writes one block that lay ahead of the loop; conditions: those of each statement. -/
namespace Go
open Go.RowKit

/-- Whatever lies in a block that X does not name lies as it lay. -/
structure But (X : Nat → Prop) (W W' : World) : Prop where
  os : W'.os = W.os
  tape : W'.tape = W.tape
  output : W'.output = W.output
  size : W.heap.size ≤ W'.heap.size
  same : ∀ k, k < W.heap.size → ¬ X k → W'.heap[k]? = W.heap[k]?

theorem But.refl (X : Nat → Prop) (W : World) : But X W W := ⟨rfl, rfl, rfl, Nat.le_refl _, fun _ _ _ => rfl⟩
theorem But.trans {X : Nat → Prop} {A B C : World} (h : But X A B) (k : But X B C) : But X A C :=
  ⟨k.os.trans h.os, k.tape.trans h.tape, k.output.trans h.output, Nat.le_trans h.size k.size, fun i hi hX => (k.same i (Nat.lt_of_lt_of_le hi h.size) hX).trans (h.same i hi hX)⟩

theorem But.mono {X Y : Nat → Prop} {A B : World} (h : But X A B) (hXY : ∀ k, k < A.heap.size → X k → Y k) : But Y A B := ⟨h.os, h.tape, h.output, h.size, fun i hi hY => h.same i hi (fun e => hY (hXY _ hi e))⟩
theorem But.of_grownBy {X : Nat → Prop} {W W' : World} {row : Option Nat} (hg : W.grownBy W' row) (hr : ∀ r, row = some r → r < W.heap.size → X r) : But X W W' :=
  ⟨hg.os, hg.tape, hg.output, hg.size, fun k hk hX => hg.block k hk (fun e => hX (hr k e.symm hk))⟩

theorem But.putObj {X : Nat → Prop} (W : World) (l : Nat) (o : Obj) (hl : X l) : But X W (W.putObj l o) := But.of_grownBy (grownBy_putObj' W l o) (fun r e _ => by cases e; exact hl)
theorem But.alloc {X : Nat → Prop} (W : World) (o : Obj) : But X W (W.alloc o) := But.of_grownBy (World.grownBy_alloc W o none) (by simp)
theorem But.setCell {X : Nat → Prop} (W : World) (b i : Nat) (v : Value) (hb : b < W.heap.size → X b) : But X W (W.setCell ⟨b, i, none⟩ v) :=
  ⟨rfl, rfl, rfl, by simp, fun k hk hX => Below.heap_setCell W ⟨b, i, none⟩ v k (fun e => hX (by subst e; exact hb hk))⟩

theorem But.drew {X : Nat → Prop} (W : World) : But X W W.drew := ⟨rfl, rfl, rfl, Nat.le_refl _, fun _ _ _ => rfl⟩
theorem But.keep {X : Nat → Prop} {W W' : World} {k : Nat} {o : Obj} (h : But X W W') (hX : ¬ X k) (hk : W.heap[k]? = some o) : W'.heap[k]? = some o := (h.same k (Array.getElem?_eq_some_iff.1 hk).1 hX).trans hk
theorem But.below {X : Nat → Prop} {W W' : World} {B : Nat} (h : But X W W') (hB : B ≤ W.heap.size) (hX : ∀ k, X k → B ≤ k) : Below B W W' :=
  ⟨h.os, h.tape, h.output, h.size, fun k hk => h.same k (Nat.lt_of_lt_of_le hk hB) (fun e => by have := hX k e; omega)⟩

theorem But.from {X : Nat → Prop} {W W' : World} {B : Nat} (h : But X W W') (hX : ∀ k o, B ≤ k → W.heap[k]? = some o → X k → o.isCells = true) : KeepsFrom B W W' :=
  ⟨h.size, fun k o hB hk ho => h.keep (fun e => by rw [hX k o hB hk e] at ho; cases ho) hk⟩

theorem But.of_below {X : Nat → Prop} {W W' : World} (h : Below W.heap.size W W') : But X W W' := ⟨h.os, h.tape, h.output, h.size, fun k hk _ => h.block k hk⟩
/-- What abides whatever is done to blocks from B on. -/
def OwnAll {β : Type} (B : Nat) (J : β → World → Prop) : Prop := ∀ s A C row, J s A → A.grownBy C row → (∀ r, row = some r → B ≤ r) → J s C

end Go
