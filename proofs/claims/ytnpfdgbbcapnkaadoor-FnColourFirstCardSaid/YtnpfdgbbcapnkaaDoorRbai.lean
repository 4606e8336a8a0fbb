/- It is proved that a family drawn from bytes is one of the call's own; conditions: those of each statement. -/
import Derived.Test.YtnpfdgbbcapnkaaDoorRows
import Derived.WalkKit
import Derived.WalkSpells
import Derived.ProofKit
import Derived.OpenShut
import Derived.ShutString
import Derived.ChangeOld
import Derived.Below
import Derived.Deep.RegionHeld3
import Derived.Deep.QuietTactic
import Derived.BigQuiet
import Derived.Lib.Hide
import Derived.Lib.SmallJoins
import Derived.Outline
import Derived.Laws.MakeOwn
import Derived.Laws.OwnMore
import Derived.IntWalk
import Derived.Deep.RegionLaw
import Derived.Deep.AppendLies
import Derived.RangeFuncNested
import Derived.RangeFuncBound
import Derived.RangeFuncCalls
import Derived.RangeFuncLeaves
import Derived.RangeFuncBox
import Derived.Shelf.Abstract
import Derived.Shelf.RegionOpen
import Derived.OwnWalkIn
import Derived.TacticsInMore
import Derived.LoopNIn
import Derived.LoopIn
import Derived.Maps.AppendAt
import Derived.OwnWalk
import Derived.Shelf.Spec.TrailingZeros
import Derived.Test.YtnpfdgbbcapnkaaDoorRbaa
import Derived.Test.YtnpfdgbbcapnkaaDoorRbah
import Derived.Test.YtnpfdgbbcapnkaaDoorRbab
import Derived.RangeFuncWrites
import Derived.RowKit
import Derived.Laws.CopyRow
import Derived.Lib.SlBuf
import Derived.StillTailTactics
import Derived.Maps.OwnIn
import Derived.Maps.Ext
import Derived.DeepKeys4
import Derived.MapKept
import Derived.Lib.AppendZeros
import Derived.Lib.SlicesCompact
import Derived.Lib.OwnBridge
import Derived.OrdersIn
import Derived.TacticsIn
import Derived.Shelf.Sort.Plain
import Derived.Shelf.Slices.In.SortNone
import Derived.Shelf.Slices.CompactI
import Derived.Ground.Names2Prog
import Derived.Lib.SliceRun
import Derived.StillTail
import Derived.StillTactics
import Derived.Test.YtnpfdgbbcapnkaaDoorRbaf
import Derived.Test.YtnpfdgbbcapnkaaDoorRbag
import Derived.Deep.RegionWith
namespace Go.Proofs.YtnpfdgbbcapnkaaDoor
open Go.RowKit

theorem openD_any (a : Option Addr) (n cap : Nat) (w : World) (hn : n ≤ 1048576) (hc : n ≤ cap) (hc2 : cap ≤ 9223372036854775807) (ha : n ≠ 0 → ∃ g off, a = some ⟨g, off, none⟩) :
    Calls Tryd.prog 72 #[.slice a n cap] w fun e w' => ∃ k, k ≤ n ∧ e = .returned (.pointer (some ⟨w.heap.size, 0, none⟩)) ∧ w' = w.alloc (.cells #[.slice a k cap, .int .i64 0] 100) := by
  by_cases h : n ≤ 2000
  · go_enter Tryd.func72, Tryd.ntmps72
    go_wp2
    go_ret
    exact ⟨n, Nat.le_refl _, rfl, rfl⟩
  · obtain ⟨g, off, rfl⟩ := ha (by omega)
    have hc3 : (2000 : Int) ≤ (cap : Int) := by omega
    go_enter Tryd.func72, Tryd.ntmps72
    go_wp2
    go_ret
    exact ⟨2000, by omega, rfl, rfl⟩

/-- A family of the call's own. -/
def DrawnOne (w : World) (e : Ending) (W : World) : Prop :=
  ∃ (m : Int) (a : Option Addr) (zs : List Int) (c : Nat), e = .returned (.agg #[.int .i64 m, .slice a zs.length c]) ∧ zs.length ≤ 9 ∧ OwnI W w.heap.size (.slice a zs.length c) zs ∧ Below w.heap.size w W

theorem Bys.below {w W : World} {B : Nat} {b : Option Addr} {n : Nat} (h : Bys w B b n) (hb : Below B w W) : Bys W B b n := by
  rcases h with h | ⟨g, off, e, hgR, hc⟩
  · exact .inl h
  · refine .inr ⟨g, off, e, hgR, fun j hj => ?_⟩
    obtain ⟨z, hz, hcz⟩ := hc j hj
    exact ⟨z, hz, (hb.cell (p := ⟨g, off + j, none⟩) hgR).trans hcz⟩

theorem Bys.fewer {w : World} {B B' : Nat} {b : Option Addr} {n k : Nat} (h : Bys w B b n) (hB : B ≤ B') (hk : k ≤ n) : Bys w B' b k := by
  rcases h with h | ⟨g, off, e, hgR, hc⟩
  · exact .inl (by omega)
  · exact .inr ⟨g, off, e, by omega, fun j hj => hc j (by omega)⟩

set_option maxRecDepth 100000 in
set_option maxHeartbeats 2000000 in
theorem oneD_any (a : Option Addr) (n cap : Nat) (w : World) (hb : Bys w w.heap.size a n) (hn : n ≤ 1048576) (hc : n ≤ cap) (hc2 : cap ≤ 9223372036854775807) :
    Calls Tryd.prog 78 #[.slice a n cap] w (DrawnOne w) := by
  have ha : n ≠ 0 → ∃ g off, a = some ⟨g, off, none⟩ := fun h => by obtain ⟨g, off, e, _⟩ := hb.resolve_left h; exact ⟨g, off, e⟩
  have HB := Lib.hid hb
  clear hb
  go_enter Tryd.func78, Tryd.ntmps78
  go_wp2_with fail
  refine (openD_any a n cap _ hn hc hc2 ha).mono ?_
  rintro e w1 ⟨k, hk, rfl, rfl⟩
  have b1 := below2 w (.cells #[.int .i64 0, .slice none 0 0] 25) (.cells #[.slice a k cap, .int .i64 0] 100)
  have HD1 : Hid (DS ((w.alloc (.cells #[.int .i64 0, .slice none 0 0] 25)).alloc (.cells #[.slice a k cap, .int .i64 0] 100)) (w.heap.size + 1) a k cap 0 ((w.alloc (.cells #[.int .i64 0, .slice none 0 0] 25)).alloc (.cells #[.slice a k cap, .int .i64 0] 100))) := Lib.hid ⟨⟨0, Nat.le_refl _, alloc2_1 w _ _⟩, World.grownBy.refl _ _⟩
  have HB1 := Lib.hid ((HB.out.below b1).fewer (B' := w.heap.size + 1) (by omega) hk)
  have HX : Hid (HasBlk ((w.alloc (.cells #[.int .i64 0, .slice none 0 0] 25)).alloc (.cells #[.slice a k cap, .int .i64 0] 100)) w.heap.size #[.int .i64 0, .slice none 0 0] 25) := Lib.hid (alloc2_0 w _ _)
  have HBL := Lib.hid b1
  clear b1
  go_wp2_with fail
  refine (someD_any 6 7 6 7 rfl rfl (by decide) (by decide) (by decide) (w.heap.size + 1) a k cap 0 _ HD1.out HB1.out (by simp) (by omega) (by omega)).mono ?_
  rintro e w2 ⟨m, a2, zs, c2, rfl, ⟨hl, -, -⟩, ho, D2⟩
  have q0 := HX.out.kept D2.gr (by simp)
  have d0 := (blk_cell q0 0).trans (cell2_0 _ _)
  have d1 := (blk_cell q0 1).trans (cell2_1 _ _)
  have f0 := blk_frozen q0 0
  have f1 := blk_frozen q0 1
  have HO : Hid (OwnI w2 (w.heap.size + 2) (.slice a2 zs.length c2) zs) := Lib.hid (own_mono ho (by simp))
  have HBW := Lib.hid (HBL.out.trans ((Below.refl w.heap.size _).grown D2.gr (by simp; omega) (fun g e => by injection e; omega)))
  clear ho D2 q0
  go_wp2
  refine bodyPost_ret (v := .agg #[.int .i64 m, .slice a2 zs.length c2]) (by simp [results, Tryd.results78, go_sem, d0, d1]) rfl ?_
  refine ⟨m, a2, zs, c2, rfl, Nat.le_trans hl (by decide), ?_, ?_⟩
  · exact own_mono (ownsRow_setCell_below (ownsRow_setCell_below HO.out (a := ⟨w.heap.size, 0, none⟩) (show w.heap.size < w.heap.size + 2 by omega) _) (a := ⟨w.heap.size, 1, none⟩) (show w.heap.size < w.heap.size + 2 by omega) _) (by omega)
  · exact (HBW.out.setCell (p := ⟨w.heap.size, 0, none⟩) (Nat.le_refl _) _).setCell (p := ⟨w.heap.size, 1, none⟩) (Nat.le_refl _) _

end Go.Proofs.YtnpfdgbbcapnkaaDoor

/- It is proved how a slice of bytes among a law's arguments reads; conditions: none but that the argument can be read. -/
namespace Go.Proofs.YtnpfdgbbcapnkaaDoor
open Go.ChangeShapes Go.WideShapes Go.ChangeAt Go.RowKit Go.Joins
open Go.ChangeMaps (open_string shut_string)

theorem u8_min : IntKind.u8.min = 0 := by decide
theorem u8_max : IntKind.u8.max = 255 := by decide
theorem byte_in {z : Int} (h : (Lit.int .u8 z).wf = true) : 0 ≤ z ∧ z ≤ 255 := by
  simp [Lit.wf, u8_min, u8_max] at h; exact h

theorem byte_small {z : Int} (h : (Lit.int .u8 z).wf = true) : z.toNat < 256 := by have := byte_in h; omega
theorem byte_nat {z : Int} (h : (Lit.int .u8 z).wf = true) : Value.int .u8 z = .int .u8 ((z.toNat : Nat) : Int) := by
  rw [Int.toNat_of_nonneg (byte_in h).1]

theorem Tryd.cells5 : Tryd.prog.cellsOf 5 = 1 := by kernel_rfl
set_option maxRecDepth 100000 in
theorem open_code {H : Type} {enc : TypeId × Value → H} {W : World} {base : Nat} {v : Value} {d : DataW H} {p : List MemPlace}
    (hv : Value.okWide Tryd.prog W .any base 22 v) (h : DataW.Trod enc Tryd.prog W 0 (fun _ => true) true 22 v d p) :
    ∃ a n cap, v = .slice a n cap ∧ n ≤ cap ∧ cap ≤ maxLen ∧ Bys W W.heap.size a n := by
  obtain ⟨a, n, cap, rfl⟩ := okWide_slice Tryd.underlying22 hv
  obtain ⟨fuel, hf⟩ := h
  rcases open_ints Tryd.underlying22 Tryd.underlying5 Tryd.cells5 hf with ⟨hcs, _⟩ | ⟨x, l, c, zs, hcs, _, hl, hm, hz, hx, hcell, hwz⟩
  · simp [Value.cells] at hcs
    obtain ⟨rfl, rfl, rfl⟩ := hcs
    exact ⟨none, 0, 0, rfl, by omega, by simp [maxLen], .inl rfl⟩
  · simp [Value.cells] at hcs
    obtain ⟨rfl, rfl, rfl⟩ := hcs
    refine ⟨some x, n, cap, rfl, hl, hm, ?_⟩
    by_cases h0 : n = 0
    · exact .inl h0
    · obtain ⟨b, off, spot⟩ := x
      simp at hz
      have hc := hcell 0 (by omega)
      have hspot : spot = none := by simpa [Addr.add] using World.cell?_spot hc
      subst hspot
      refine .inr ⟨b, off, rfl, by simpa [Addr.add] using World.block_lt_of_cell? W _ hc, fun j hj => ?_⟩
      have h1 := hcell j (by omega)
      rw [show (⟨b, off, none⟩ : Addr).add j = ⟨b, off + j, none⟩ from by unfold Addr.add; split <;> simp_all] at h1
      have h2 := hwz (zs.getD j 0) (by
        have : j < zs.length := by omega
        simp [List.getD, this])
      refine ⟨(zs.getD j 0).toNat, ?_, ?_⟩
      · exact byte_small h2
      · rw [h1, byte_nat h2]

end Go.Proofs.YtnpfdgbbcapnkaaDoor

/- It is proved how a Family among a law's arguments reads as a number and a list of ints; conditions: none but that the argument can be read. -/
namespace Go.Proofs.YtnpfdgbbcapnkaaDoor
open Go.ChangeShapes Go.WideShapes Go.ChangeAt Go.RowKit Go.Joins
open Go.ChangeMaps (open_string shut_string)

theorem Tryd.own : ownKnob Tryd.prog.godebug = none := by kernel_rfl
theorem Tryd.laidOut : laidOutB Tryd.prog = true := by kernel_rfl
theorem Tryd.cells3 : Tryd.prog.cellsOf 3 = 1 := by kernel_rfl
theorem Tryd.cells23 : Tryd.prog.cellsOf 23 = 1 := by kernel_rfl
theorem ints_of_row {W : World} {x : Addr} {l c : Nat} {zs : List Int} (hl : l ≤ c) (hz : zs.length = c)
    (hcell : ∀ i, i < zs.length → W.cell? (x.add i) = some (.int .i64 (zs.getD i 0))) : Ints W W.heap.size (some x) (zs.take l) := by
  by_cases h0 : l = 0
  · subst h0; exact .inl (by simp)
  · obtain ⟨b, off, spot⟩ := x
    have hc := hcell 0 (by omega)
    have hspot : spot = none := by simpa [Addr.add] using World.cell?_spot hc
    subst hspot
    refine .inr ⟨b, off, rfl, by simpa [Addr.add] using World.block_lt_of_cell? W _ hc, fun j hj => ?_⟩
    have hj' : j < l := by simp at hj; omega
    have := hcell j (by omega)
    rw [show (⟨b, off, none⟩ : Addr).add j = ⟨b, off + j, none⟩ from by unfold Addr.add; split <;> simp_all] at this
    rw [this]
    simp [List.getD, hj']

end Go.Proofs.YtnpfdgbbcapnkaaDoor

/- It is proved how boxed families and lists are kept while the laws go on; conditions: those of each statement. -/
namespace Go.Proofs.YtnpfdgbbcapnkaaDoor
open Go.RowKit

/-- A family in a box. -/
structure FB (X : Nat) (m : Int) (a : Option Addr) (zs : List Int) (c : Nat) (W : World) : Prop where
  blk : HasBlk W X #[.int .i64 m, .slice a zs.length c] 25
  ints : Ints W W.heap.size a zs

theorem FB.step {X : Nat} {m : Int} {a : Option Addr} {zs : List Int} {c : Nat} {W W' : World} (h : FB X m a zs c W) (hb : Below W.heap.size W W') : FB X m a zs c W' :=
  ⟨(hb.block X (lt_of_some h.blk)).trans h.blk, (h.ints.below hb).mono hb.size⟩

theorem FB.start {w : World} {m : Int} {a : Option Addr} {zs : List Int} {c : Nat} (h : Ints w w.heap.size a zs) : FB w.heap.size m a zs c (w.alloc (.cells #[.int .i64 m, .slice a zs.length c] 25)) :=
  ⟨alloc_new w _, (h.below (below1 w _)).mono (by simp)⟩

theorem FB.x0 {X : Nat} {m : Int} {a : Option Addr} {zs : List Int} {c : Nat} {W : World} (h : FB X m a zs c W) : W.cell? ⟨X, 0, none⟩ = some (.int .i64 m) := (blk_cell h.blk 0).trans (cell2_0 _ _)
theorem FB.x1 {X : Nat} {m : Int} {a : Option Addr} {zs : List Int} {c : Nat} {W : World} (h : FB X m a zs c W) : W.cell? ⟨X, 1, none⟩ = some (.slice a zs.length c) := (blk_cell h.blk 1).trans (cell2_1 _ _)
theorem Ints.step {W W' : World} {a : Option Addr} {zs : List Int} (h : Ints W W.heap.size a zs) (hb : Below W.heap.size W W') : Ints W' W'.heap.size a zs := (h.below hb).mono hb.size
theorem sameB_refl (zs : List Int) : sameB zs zs = true := by simp [sameB]
/-- A sum of small numbers. -/
theorem wrap_add {x y z : Int} (h : x + y = z) (h1 : -1000000000 ≤ z) (h2 : z ≤ 1000000000) : IntKind.i64.wrap (x + y) = z := by
  rw [h, IntKind.wrap_i64]; omega

end Go.Proofs.YtnpfdgbbcapnkaaDoor

/- It is proved how all lists of colours follow on each other and how many kinds of colours a list has; conditions: those of each statement. -/
namespace Go.Proofs.YtnpfdgbbcapnkaaDoor

/-- All lists of n of a palette, in order. -/
def wordsL {γ : Type} (pal : List γ) : Nat → List (List γ)
  | 0 => [[]]
  | n + 1 => pal.flatMap fun c => (wordsL pal n).map (c :: ·)

theorem wordsL_mem {γ : Type} (pal : List γ) : ∀ (n : Nat) (w : List γ), w ∈ wordsL pal n ↔ w.length = n ∧ ∀ c ∈ w, c ∈ pal
  | 0, w => by
    simp only [wordsL, List.mem_singleton]
    constructor
    · rintro rfl; simp
    · rintro ⟨h, -⟩; exact List.eq_nil_of_length_eq_zero h
  | n + 1, w => by
    simp only [wordsL, List.mem_flatMap, List.mem_map]
    constructor
    · rintro ⟨c, hc, u, hu, rfl⟩
      obtain ⟨h1, h2⟩ := (wordsL_mem pal n u).1 hu
      refine ⟨by simp [h1], fun x hx => ?_⟩
      rcases List.mem_cons.1 hx with rfl | h
      · exact hc
      · exact h2 x h
    · rintro ⟨h1, h2⟩
      cases w with
      | nil => simp at h1
      | cons c u => exact ⟨c, h2 c (by simp), u, (wordsL_mem pal n u).2 ⟨by simpa using h1, fun x hx => h2 x (by simp [hx])⟩, rfl⟩

theorem wordsL_card {γ : Type} (pal : List γ) : ∀ n : Nat, (wordsL pal n).length = pal.length ^ n
  | 0 => rfl
  | n + 1 => by
    have hc : ∀ (l : List γ), (l.flatMap fun c => (wordsL pal n).map (c :: ·)).length = l.length * pal.length ^ n := by
      intro l
      induction l with
      | nil => simp
      | cons c l ih => rw [List.flatMap_cons, List.length_append, ih, List.length_map, wordsL_card pal n, List.length_cons, Nat.succ_mul, Nat.add_comm]
    rw [wordsL, hc, Nat.pow_succ, Nat.mul_comm]

theorem wordsL_snoc {γ : Type} (pal : List γ) : ∀ n : Nat, wordsL pal (n + 1) = (wordsL pal n).flatMap fun p => pal.map fun c => p ++ [c]
  | 0 => by
    simp only [wordsL, List.flatMap_cons, List.flatMap_nil, List.append_nil, List.nil_append, List.map_cons, List.map_nil]
    induction pal with
    | nil => rfl
    | cons c l ih => simpa using ih
  | n + 1 => by
    have ih := wordsL_snoc pal n
    show (pal.flatMap fun c => (wordsL pal (n + 1)).map (c :: ·)) = (pal.flatMap fun c => (wordsL pal n).map (c :: ·)).flatMap fun p => pal.map fun c => p ++ [c]
    rw [ih, List.flatMap_assoc]
    congr 1
    funext c
    rw [List.map_flatMap, List.flatMap_map]
    congr 1
    funext p
    rw [List.map_map]
    rfl

/-- The digits of a number to the base k. -/
def digs (k : Nat) : Nat → Nat → List Int
  | 0, _ => []
  | n + 1, c => digs k n (c / k) ++ [((c % k : Nat) : Int)]

theorem digs_len (k : Nat) : ∀ n c, (digs k n c).length = n
  | 0, _ => rfl
  | n + 1, c => by rw [digs, List.length_append, digs_len k n]; rfl

theorem range_mul (b : Nat) : ∀ a : Nat, List.range (a * b) = (List.range a).flatMap fun q => (List.range b).map (q * b + ·)
  | 0 => by simp
  | a + 1 => by
    rw [Nat.succ_mul, List.range_add, range_mul b a, List.range_succ, List.flatMap_append]
    simp

/-- The palette of k colours. -/
def palI (k : Nat) : List Int := (List.range k).map fun (c : Nat) => (c : Int)

theorem palI_len (k : Nat) : (palI k).length = k := by simp [palI]
theorem palI_mem (k : Nat) (c : Int) : c ∈ palI k ↔ 0 ≤ c ∧ c < k := by
  simp only [palI, List.mem_map, List.mem_range]
  constructor
  · rintro ⟨x, hx, rfl⟩; omega
  · intro h; exact ⟨c.toNat, by omega, by omega⟩

theorem digs_words (k : Nat) : ∀ n : Nat, (List.range (k ^ n)).map (digs k n) = wordsL (palI k) n
  | 0 => rfl
  | n + 1 => by
    rw [wordsL_snoc, ← digs_words k n, Nat.pow_succ, range_mul, List.map_flatMap, List.flatMap_map]
    congr 1
    funext q
    rw [List.map_map, palI, List.map_map]
    apply List.map_congr_left
    intro r hr
    have hr : r < k := List.mem_range.1 hr
    simp only [Function.comp, digs]
    rw [Nat.mul_comm q k, Nat.mul_add_div (by omega), Nat.div_eq_of_lt hr, Nat.mul_add_mod, Nat.mod_eq_of_lt hr, Nat.add_zero]

/-- The kinds of colours, one by one. -/
def addK {γ : Type} [BEq γ] (ks : List γ) (c : γ) : List γ := if ks.contains c then ks else ks ++ [c]

def kindsOf {γ : Type} [BEq γ] (l : List γ) : List γ := l.foldl addK []
theorem kindsOf_snoc {γ : Type} [BEq γ] (l : List γ) (c : γ) : kindsOf (l ++ [c]) = addK (kindsOf l) c := by simp [kindsOf, List.foldl_append]
theorem kinds_inv {γ : Type} [BEq γ] [LawfulBEq γ] (l : List γ) : (kindsOf l).Nodup ∧ (∀ c, c ∈ kindsOf l ↔ c ∈ l) ∧ (kindsOf l).length ≤ l.length := by
  have H : ∀ r : List γ, ∀ l, l = r.reverse → (kindsOf l).Nodup ∧ (∀ c, c ∈ kindsOf l ↔ c ∈ l) ∧ (kindsOf l).length ≤ l.length := by
    intro r
    induction r with
    | nil => rintro l rfl; simp [kindsOf]
    | cons a r ih =>
      rintro l rfl
      obtain ⟨h1, h2, h3⟩ := ih _ rfl
      rw [List.reverse_cons, kindsOf_snoc, addK]
      by_cases hc : (kindsOf r.reverse).contains a = true
      · rw [if_pos hc]
        have ha : a ∈ kindsOf r.reverse := by simpa using hc
        refine ⟨h1, fun c => ?_, by simp at h3 ⊢; omega⟩
        rw [h2, List.mem_append, List.mem_singleton]
        constructor
        · exact Or.inl
        · rintro (h | rfl)
          · exact h
          · exact (h2 _).1 ha
      · rw [if_neg hc]
        have ha : a ∉ kindsOf r.reverse := by simpa using hc
        refine ⟨?_, fun c => ?_, by simp at h3 ⊢; omega⟩
        · rw [List.nodup_append]
          refine ⟨h1, by simp, ?_⟩
          intro x hx y hy e
          rw [List.mem_singleton] at hy
          subst hy; subst e
          exact ha hx
        · rw [List.mem_append, List.mem_append, h2]
  exact H l.reverse l (by simp)

theorem kinds_two {γ : Type} [BEq γ] [LawfulBEq γ] (l : List γ) : 1 < (kindsOf l).length ↔ ∃ a ∈ l, ∃ b ∈ l, a ≠ b := by
  obtain ⟨h1, h2, h3⟩ := kinds_inv l
  constructor
  · intro h
    match hk : kindsOf l with
    | [] => rw [hk] at h; simp at h
    | [_] => rw [hk] at h; simp at h
    | a :: b :: r =>
      refine ⟨a, (h2 a).1 (by rw [hk]; simp), b, (h2 b).1 (by rw [hk]; simp), ?_⟩
      rw [hk] at h1
      rintro rfl
      simp at h1
  · rintro ⟨a, ha, b, hb, hab⟩
    have ha' := (h2 a).2 ha
    have hb' := (h2 b).2 hb
    match hk : kindsOf l with
    | [] => rw [hk] at ha'; simp at ha'
    | [c] =>
      rw [hk] at ha' hb'
      rw [List.mem_singleton] at ha' hb'
      exact absurd (ha'.trans hb'.symm) hab
    | _ :: _ :: _ => simp

theorem kinds_all {γ : Type} [BEq γ] [LawfulBEq γ] (l : List γ) : (kindsOf l).length = l.length ↔ l.Nodup := by
  have H : ∀ r : List γ, ∀ l, l = r.reverse → ((kindsOf l).length = l.length ↔ l.Nodup) := by
    intro r
    induction r with
    | nil => rintro l rfl; simp [kindsOf]
    | cons a r ih =>
      rintro l rfl
      have ih := ih _ rfl
      obtain ⟨h1, h2, h3⟩ := kinds_inv r.reverse
      rw [List.reverse_cons, kindsOf_snoc, addK]
      by_cases hc : (kindsOf r.reverse).contains a = true
      · rw [if_pos hc]
        have ha : a ∈ r.reverse := (h2 a).1 (by simpa using hc)
        constructor
        · intro h; rw [List.length_append] at h; simp at h h3; omega
        · intro h
          rw [List.nodup_append] at h
          exact absurd rfl (h.2.2 a ha a (by simp))
      · rw [if_neg hc]
        have ha : a ∉ r.reverse := fun h => hc (by simpa using (h2 a).2 h)
        rw [List.length_append, List.length_append, List.nodup_append]
        constructor
        · intro h
          refine ⟨ih.1 (by simp at h ⊢; omega), by simp, ?_⟩
          intro x hx y hy e
          rw [List.mem_singleton] at hy
          subst hy; subst e
          exact ha hx
        · rintro ⟨h, -, -⟩
          rw [ih.2 h]
  exact H l.reverse l (by simp)

end Go.Proofs.YtnpfdgbbcapnkaaDoor

/- It is proved which colours are mixed and which are proper, and that colours may be exchanged; conditions: those of each statement. -/
namespace Go.Proofs.YtnpfdgbbcapnkaaDoor

/-- The colours of the members of a club, one by one. -/
def colsZ (c : List Int) (z : Int) : List Int := (mem z.toNat).map fun v => c[v]?.getD 0

def mixZ (c : List Int) (z : Int) : Bool := decide (1 < (kindsOf (colsZ c z)).length)
def propZ (c : List Int) (z : Int) : Bool := decide ((kindsOf (colsZ c z)).length = (mem z.toNat).length)
def mixB (zs : List Int) (c : List Int) : Bool := zs.all (mixZ c)
def proB (zs : List Int) (c : List Int) : Bool := zs.all (propZ c)
theorem mixZ_iff {c : List Int} {z : Int} : mixZ c z = true ↔ ∃ v ∈ mem z.toNat, ∃ w ∈ mem z.toNat, c[v]?.getD 0 ≠ c[w]?.getD 0 := by
  rw [mixZ, decide_eq_true_iff, kinds_two]
  simp only [colsZ, List.mem_map]
  constructor
  · rintro ⟨a, ⟨v, hv, rfl⟩, b, ⟨w, hw, rfl⟩, hne⟩; exact ⟨v, hv, w, hw, hne⟩
  · rintro ⟨v, hv, w, hw, hne⟩; exact ⟨_, ⟨v, hv, rfl⟩, _, ⟨w, hw, rfl⟩, hne⟩

theorem mem_nodS (s : Nat) : (mem s).Nodup := List.nodup_range.filter _
theorem nodup_map {α β : Type} {f : α → β} : ∀ {l : List α}, l.Nodup → ((l.map f).Nodup ↔ ∀ a ∈ l, ∀ b ∈ l, f a = f b → a = b)
  | [], _ => by simp
  | x :: l, h => by
    rw [List.nodup_cons] at h
    rw [List.map_cons, List.nodup_cons, nodup_map h.2]
    constructor
    · rintro ⟨h1, h2⟩ a ha b hb e
      rcases List.mem_cons.1 ha with ea | ha'
      · rcases List.mem_cons.1 hb with eb | hb'
        · rw [ea, eb]
        · exact absurd (List.mem_map.2 ⟨b, hb', by rw [← e, ea]⟩) h1
      · rcases List.mem_cons.1 hb with eb | hb'
        · exact absurd (List.mem_map.2 ⟨a, ha', by rw [e, eb]⟩) h1
        · exact h2 a ha' b hb' e
    · intro H
      refine ⟨fun hx => ?_, fun a ha b hb => H a (by simp [ha]) b (by simp [hb])⟩
      obtain ⟨b, hb, e⟩ := List.mem_map.1 hx
      have := H b (by simp [hb]) x (by simp) e
      subst this
      exact h.1 hb

theorem propZ_iff {c : List Int} {z : Int} : propZ c z = true ↔ ∀ v ∈ mem z.toNat, ∀ w ∈ mem z.toNat, c[v]?.getD 0 = c[w]?.getD 0 → v = w := by
  have h := kinds_all (colsZ c z)
  rw [propZ, decide_eq_true_iff, show (mem z.toNat).length = (colsZ c z).length from by simp [colsZ], h, colsZ, nodup_map (mem_nodS _)]

/-- The model's question: two members that differ. -/
def mixM (c : List Int) (z : Int) : Bool := (List.range c.length).any fun v => (List.range v).any fun w => Bt v z && Bt w z && (c[v]?.getD 0 != c[w]?.getD 0)

theorem mem_bt {z : Int} {v : Nat} (hz : z.toNat < 64) : v ∈ mem z.toNat ↔ Bt v z = true := mem_bit2 hz
theorem bt_len {c : List Int} {z : Int} (hc : c.length ≤ 6) (hz : z.toNat < 2 ^ c.length) {v : Nat} (h : Bt v z = true) : v < c.length :=
  mem_lt _ hc _ hz v ((mem_bt (Nat.lt_of_lt_of_le hz (Nat.pow_le_pow_right (n := 2) (by decide) hc))).2 h)

theorem mixM_is {c : List Int} {z : Int} (hc : c.length ≤ 6) (hz : z.toNat < 2 ^ c.length) : mixM c z = mixZ c z := by
  have h64 : z.toNat < 64 := Nat.lt_of_lt_of_le hz (Nat.pow_le_pow_right (n := 2) (by decide) hc)
  rw [Bool.eq_iff_iff, mixZ_iff]
  simp only [mixM, List.any_eq_true, List.mem_range, Bool.and_eq_true, bne_iff_ne, mem_bt h64]
  constructor
  · rintro ⟨v, hv, w, hw, ⟨h1, h2⟩, h3⟩; exact ⟨v, h1, w, h2, h3⟩
  · rintro ⟨v, hv, w, hw, hne⟩
    rcases Nat.lt_trichotomy v w with h | rfl | h
    · exact ⟨w, bt_len hc hz hw, v, h, ⟨hw, hv⟩, fun e => hne e.symm⟩
    · exact absurd rfl hne
    · exact ⟨v, bt_len hc hz hv, w, h, ⟨hv, hw⟩, hne⟩

/-- The model's question for proper colours, by pairs. -/
def pairB (zs : List Int) (v w : Nat) : Bool := decide (v ≠ w) && zs.any fun z => Bt v z && Bt w z

def proM (zs : List Int) (c : List Int) : Bool := (List.range c.length).all fun v => (List.range v).all fun w => !pairB zs v w || (c[v]?.getD 0 != c[w]?.getD 0)
theorem proM_is {zs : List Int} {c : List Int} (hc : c.length ≤ 6) (hz : Sets c.length zs) : proM zs c = proB zs c := by
  rw [Bool.eq_iff_iff]
  simp only [proM, proB, List.all_eq_true, List.mem_range, Bool.or_eq_true, Bool.not_eq_true', bne_iff_ne, pairB, Bool.and_eq_false_iff, decide_eq_false_iff_not, List.any_eq_false, Bool.and_eq_true]
  have h64 : ∀ z ∈ zs, z.toNat < 64 := fun z h => Nat.lt_of_lt_of_le (hz z h).2 (Nat.pow_le_pow_right (n := 2) (by decide) hc)
  constructor
  · intro H z hzz
    rw [propZ_iff]
    intro v hv w hw e
    rw [mem_bt (h64 z hzz)] at hv hw
    have hlv := bt_len hc (hz z hzz).2 hv
    have hlw := bt_len hc (hz z hzz).2 hw
    rcases Nat.lt_trichotomy v w with h | h | h
    · rcases H w hlw v h with (h1 | h1) | h1
      · exact absurd (fun e => by omega) h1
      · exact absurd ⟨hw, hv⟩ (h1 z hzz)
      · exact absurd e.symm h1
    · exact h
    · rcases H v hlv w h with (h1 | h1) | h1
      · exact absurd (fun e => by omega) h1
      · exact absurd ⟨hv, hw⟩ (h1 z hzz)
      · exact absurd e h1
  · intro H v hv w hw
    by_cases he : c[v]?.getD 0 = c[w]?.getD 0
    · refine .inl (.inr fun z hzz hb => ?_)
      have := propZ_iff.1 (H z hzz) v ((mem_bt (h64 z hzz)).2 hb.1) w ((mem_bt (h64 z hzz)).2 hb.2) he
      omega
    · exact .inr he

/-- Colours are exchanged: a map that keeps different colours apart. -/
theorem mix_map {zs : List Int} {c : List Int} {f : Int → Int} (hc : c.length ≤ 6) (hz : Sets c.length zs) (hf : ∀ a ∈ c, ∀ b ∈ c, f a = f b → a = b) : mixB zs (c.map f) = mixB zs c ∧ proB zs (c.map f) = proB zs c := by
  have h64 : ∀ z ∈ zs, z.toNat < 64 := fun z h => Nat.lt_of_lt_of_le (hz z h).2 (Nat.pow_le_pow_right (n := 2) (by decide) hc)
  have hat : ∀ z ∈ zs, ∀ v ∈ mem z.toNat, ∃ a ∈ c, c[v]?.getD 0 = a ∧ (c.map f)[v]?.getD 0 = f a := fun z hzz v hv => by
    have hl := bt_len hc (hz z hzz).2 ((mem_bt (h64 z hzz)).1 hv)
    refine ⟨c[v], List.getElem_mem hl, by simp [hl], by simp [hl]⟩
  have hiff : ∀ z ∈ zs, ∀ v ∈ mem z.toNat, ∀ w ∈ mem z.toNat, ((c.map f)[v]?.getD 0 = (c.map f)[w]?.getD 0 ↔ c[v]?.getD 0 = c[w]?.getD 0) := fun z hzz v hv w hw => by
    obtain ⟨a, ha, e1, e2⟩ := hat z hzz v hv
    obtain ⟨b, hb, e3, e4⟩ := hat z hzz w hw
    rw [e1, e2, e3, e4]
    exact ⟨hf a ha b hb, fun e => by rw [e]⟩
  constructor
  · rw [Bool.eq_iff_iff, mixB, mixB, List.all_eq_true, List.all_eq_true]
    refine forall_congr' fun z => forall_congr' fun hzz => ?_
    rw [mixZ_iff, mixZ_iff]
    constructor
    · rintro ⟨v, hv, w, hw, h⟩; exact ⟨v, hv, w, hw, fun e => h ((hiff z hzz v hv w hw).2 e)⟩
    · rintro ⟨v, hv, w, hw, h⟩; exact ⟨v, hv, w, hw, fun e => h ((hiff z hzz v hv w hw).1 e)⟩
  · rw [Bool.eq_iff_iff, proB, proB, List.all_eq_true, List.all_eq_true]
    refine forall_congr' fun z => forall_congr' fun hzz => ?_
    rw [propZ_iff, propZ_iff]
    constructor
    · intro H v hv w hw e; exact H v hv w hw ((hiff z hzz v hv w hw).2 e)
    · intro H v hv w hw e; exact H v hv w hw ((hiff z hzz v hv w hw).1 e)

/-- All lists, with colours exchanged, are all lists in some order. -/
theorem flat_perm {α β : Type} {f g : α → List β} (h : ∀ a, (f a).Perm (g a)) : ∀ l : List α, (l.flatMap f).Perm (l.flatMap g)
  | [] => .refl _
  | a :: l => by
    rw [List.flatMap_cons, List.flatMap_cons]
    exact (h a).append (flat_perm h l)

theorem words_perm {γ : Type} {pal pal' : List γ} (h : pal.Perm pal') : ∀ n, (wordsL pal n).Perm (wordsL pal' n)
  | 0 => .refl _
  | n + 1 => (flat_perm (fun c => (words_perm h n).map (c :: ·)) pal).trans (h.flatMap_right _)

theorem words_map {γ δ : Type} (f : γ → δ) (pal : List γ) : ∀ n, (wordsL pal n).map (List.map f) = wordsL (pal.map f) n
  | 0 => rfl
  | n + 1 => by
    simp only [wordsL, List.map_flatMap, List.flatMap_map, List.map_map, ← words_map f pal n]
    rfl

/-- 0 and another colour are exchanged. -/
def swapC (j c : Int) : Int := if c = 0 then j else if c = j then 0 else c

theorem swap_inj {j a b : Int} (h : swapC j a = swapC j b) : a = b := by
  unfold swapC at h
  repeat' split at h
  all_goals omega

theorem nodup_pal (k : Nat) : (palI k).Nodup := by
  rw [palI, nodup_map List.nodup_range]
  intro a _ b _ h
  omega

theorem pal_swap {k : Nat} {j : Int} (h0 : 0 ≤ j) (hj : j < k) : ((palI k).map (swapC j)).Perm (palI k) := by
  refine (List.perm_ext_iff_of_nodup ((nodup_map (nodup_pal k)).2 (fun a _ b _ h => swap_inj h)) (nodup_pal k)).2 fun c => ?_
  rw [List.mem_map]
  simp only [palI_mem]
  constructor
  · rintro ⟨a, ha, rfl⟩
    unfold swapC
    repeat' split
    all_goals omega
  · intro hc
    refine ⟨swapC j c, ?_, ?_⟩
    all_goals unfold swapC
    all_goals repeat' split
    all_goals omega

/-- What abides when colours are exchanged. -/
def Swaps (n : Nat) (k : Nat) (P : List Int → Bool) : Prop := ∀ j : Int, 0 ≤ j → j < k → ∀ c ∈ wordsL (palI k) n, P (c.map (swapC j)) = P c

theorem cnt_head {k n : Nat} {P : List Int → Bool} (h : Swaps (n + 1) k P) {j : Int} (h0 : 0 ≤ j) (hj : j < k) :
    (wordsL (palI k) n).countP (fun u => P (j :: u)) = (wordsL (palI k) n).countP (fun u => P (0 :: u)) := by
  have h1 := (words_perm (pal_swap h0 hj) n).countP_eq (fun u => P (0 :: u))
  rw [← words_map, List.countP_map] at h1
  rw [← h1]
  apply List.countP_congr
  intro u hu
  have hm : (j :: u) ∈ wordsL (palI k) (n + 1) := by
    rw [wordsL_mem] at hu ⊢
    refine ⟨by simp [hu.1], fun c hc => ?_⟩
    rcases List.mem_cons.1 hc with rfl | hc
    · exact (palI_mem _ _).2 ⟨h0, hj⟩
    · exact hu.2 c hc
  have := h j h0 hj (j :: u) hm
  simp only [Function.comp]
  rw [← this, List.map_cons, show swapC j j = 0 from by unfold swapC; split <;> simp_all]

theorem swap_cnt {k n : Nat} {P : List Int → Bool} (h : Swaps (n + 1) k P) : (wordsL (palI k) (n + 1)).countP P = k * (wordsL (palI k) n).countP (fun u => P (0 :: u)) := by
  have H : ∀ l : List Int, (∀ j ∈ l, 0 ≤ j ∧ j < k) → (l.flatMap fun c => (wordsL (palI k) n).map (c :: ·)).countP P = l.length * (wordsL (palI k) n).countP (fun u => P (0 :: u)) := by
    intro l
    induction l with
    | nil => intro _; simp
    | cons j l ih =>
      intro hl
      obtain ⟨h0, hj⟩ := hl j (by simp)
      rw [List.flatMap_cons, List.countP_append, ih (fun i hi => hl i (by simp [hi])), List.countP_map, List.length_cons, Nat.succ_mul, Nat.add_comm]
      congr 1
      exact cnt_head h h0 hj
  rw [wordsL, H _ (fun j hj => (palI_mem _ _).1 hj), palI_len]

/-- The first list of those that are right begins with 0. -/
theorem first_head {k n : Nat} {P : List Int → Bool} (h : Swaps (n + 1) k P) {c : List Int} (hc : (wordsL (palI k) (n + 1)).find? P = some c) : ∃ u, c = 0 :: u := by
  have hP := List.find?_some hc
  have hm := List.mem_of_find?_eq_some hc
  have hm' := hm
  rw [wordsL, List.mem_flatMap] at hm'
  obtain ⟨j, hj, hju⟩ := hm'
  obtain ⟨u, hu, rfl⟩ := List.mem_map.1 hju
  obtain ⟨h0, hjk⟩ := (palI_mem _ _).1 hj
  have hs := h j h0 hjk (j :: u) hm
  rw [hP, List.map_cons, show swapC j j = 0 from by unfold swapC; split <;> simp_all] at hs
  cases k with
  | zero => omega
  | succ k =>
    have hp0 : palI (k + 1) = 0 :: (List.range k).map (fun (c : Nat) => ((c + 1 : Nat) : Int)) := by
      rw [palI, List.range_succ_eq_map, List.map_cons, List.map_map]; rfl
    have hin : u.map (swapC j) ∈ wordsL (palI (k + 1)) n := by
      have := (words_perm (pal_swap h0 hjk) n).mem_iff (a := u.map (swapC j))
      rw [← this, ← words_map]
      exact List.mem_map.2 ⟨u, hu, rfl⟩
    rw [wordsL] at hc
    rw [hp0, List.flatMap_cons, List.find?_append] at hc
    rw [← hp0] at hc
    cases hf : List.find? P (List.map (fun x => 0 :: x) (wordsL (palI (k + 1)) n)) with
    | none =>
      rw [List.find?_eq_none] at hf
      exact absurd hs (hf _ (List.mem_map.2 ⟨_, hin, rfl⟩))
    | some d =>
      rw [hf, Option.some_or] at hc
      cases hc
      obtain ⟨v, -, hv⟩ := List.mem_map.1 (List.mem_of_find?_eq_some hf)
      exact ⟨v, hv.symm⟩

theorem mix_swaps {zs : List Int} {n k : Nat} (hn : n ≤ 6) (hz : Sets n zs) : Swaps n k (mixB zs) := fun j _ _ c hc => by
  obtain ⟨h1, -⟩ := (wordsL_mem _ _ _).1 hc
  exact (mix_map (by omega) (by rw [h1]; exact hz) (fun a _ b _ e => swap_inj e)).1

theorem pro_swaps {zs : List Int} {n k : Nat} (hn : n ≤ 6) (hz : Sets n zs) : Swaps n k (proB zs) := fun j _ _ c hc => by
  obtain ⟨h1, -⟩ := (wordsL_mem _ _ _).1 hc
  exact (mix_map (by omega) (by rw [h1]; exact hz) (fun a _ b _ e => swap_inj e)).2

end Go.Proofs.YtnpfdgbbcapnkaaDoor

/- It is proved that a drawn family and a drawn set are the call's own; conditions: those of each statement. -/
namespace Go.Proofs.YtnpfdgbbcapnkaaDoor
open Go.RowKit

/-- A family of the call's own, and a number. -/
def DrawnTwo (w : World) (e : Ending) (W : World) : Prop :=
  ∃ (m : Int) (a : Option Addr) (zs : List Int) (c : Nat) (x : Int), e = .returned (.tuple #[.agg #[.int .i64 m, .slice a zs.length c], .int .i64 x]) ∧ zs.length ≤ 10 ∧ OwnI W w.heap.size (.slice a zs.length c) zs ∧ Below w.heap.size w W

theorem DS.belowR {w W : World} {R : Nat} {b : Option Addr} {n cap P B : Nat} (h : DS w R b n cap P W) (hB : B ≤ R) (hs : B ≤ w.heap.size) : Below B w W :=
  (Below.refl B w).grown h.gr hs (fun g e => by injection e with e; omega)

end Go.Proofs.YtnpfdgbbcapnkaaDoor
