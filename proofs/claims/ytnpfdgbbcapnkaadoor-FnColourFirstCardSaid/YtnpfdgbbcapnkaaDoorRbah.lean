/- It is proved that reducing a family leads to one family only, in whatever order it is done; conditions: those of each statement. -/
import Derived.RowKit
import Derived.Laws.CopyRow
import Derived.Lib.SlBuf
import Derived.Deep.QuietTactic
import Derived.RangeFuncNested
import Derived.RangeFuncBound
import Derived.RangeFuncCalls
import Derived.RangeFuncLeaves
import Derived.RangeFuncBox
import Derived.RangeFuncWrites
import Derived.StillTailTactics
import Derived.Maps.OwnIn
import Derived.Maps.Ext
import Derived.DeepKeys4
import Derived.MapKept
import Derived.Test.YtnpfdgbbcapnkaaDoorRows
import Derived.WalkKit
import Derived.WalkSpells
import Derived.ProofKit
import Derived.OpenShut
import Derived.ShutString
import Derived.ChangeOld
import Derived.Below
import Derived.Deep.RegionHeld3
import Derived.BigQuiet
import Derived.Lib.Hide
import Derived.Lib.SmallJoins
import Derived.Outline
import Derived.Laws.MakeOwn
import Derived.Laws.OwnMore
import Derived.IntWalk
import Derived.Lib.AppendZeros
import Derived.Maps.AppendAt
import Derived.Deep.AppendLies
import Derived.OwnWalk
import Derived.Lib.SlicesCompact
import Derived.Lib.OwnBridge
import Derived.OrdersIn
import Derived.TacticsIn
import Derived.Shelf.Sort.Plain
import Derived.Shelf.Slices.In.SortNone
import Derived.Shelf.Slices.CompactI
import Derived.Ground.Names2Prog
import Derived.Lib.SliceRun
import Derived.Shelf.Abstract
import Derived.Shelf.RegionOpen
import Derived.OwnWalkIn
import Derived.TacticsInMore
import Derived.LoopNIn
import Derived.LoopIn
import Derived.StillTail
import Derived.StillTactics
import Derived.Shelf.Spec.TrailingZeros
import Derived.Test.YtnpfdgbbcapnkaaDoorRbab
import Derived.Test.YtnpfdgbbcapnkaaDoorRbae
import Derived.Test.YtnpfdgbbcapnkaaDoorRbac
import Derived.Test.YtnpfdgbbcapnkaaDoorRbaf
import Derived.Test.YtnpfdgbbcapnkaaDoorRbag
import Derived.Test.YtnpfdgbbcapnkaaDoorRbaa
import Derived.Deep.RegionLaw
namespace Go.Proofs.YtnpfdgbbcapnkaaDoor
open Go.RowKit

def Bt (v : Nat) (z : Int) : Bool := z.toNat.testBit v
def subZ (x y : Int) : Prop := x.toNat &&& y.toNat = x.toNat
instance subZ.dec (x y : Int) : Decidable (subZ x y) := inferInstanceAs (Decidable (x.toNat &&& y.toNat = x.toNat))
theorem subZ_refl (x : Int) : subZ x x := Nat.and_self _
theorem subZ_trans {x y z : Int} (h1 : subZ x y) (h2 : subZ y z) : subZ x z := by
  unfold subZ at *
  rw [← h1, Nat.and_assoc, h2]

theorem subZ_bit {x y : Int} (h : subZ x y) {v : Nat} (hx : Bt v x = true) : Bt v y = true := by
  unfold Bt at *
  unfold subZ at h
  rw [← h, Nat.testBit_and, Bool.and_eq_true] at hx
  exact hx.2

theorem subZ_anti {x y : Int} (h0 : 0 ≤ x) (h1 : 0 ≤ y) (h : subZ x y) (h' : subZ y x) : x = y := by
  unfold subZ at h h'
  rw [Nat.and_comm] at h'
  rw [h] at h'
  omega

theorem subZ_lt {x y : Int} (h0 : 0 ≤ x) (h1 : 0 ≤ y) (h : subZ x y) (hne : x ≠ y) : x.toNat < y.toNat := by
  have := sub_lt h
  omega

def grZ (zs : List Int) : List Int := unbeaten geG zs
theorem geG_sub {m : Nat} (hm : m ≤ 6) {zs : List Int} (hS : Sets m zs) {o z : Int} (ho : o ∈ zs) (hz : z ∈ zs) : geG o z = true ↔ subZ z o := by
  obtain ⟨a, b⟩ := hS o ho
  obtain ⟨c, d⟩ := hS z hz
  have e := leG_nat z.toNat o.toNat (p64 hm d) (p64 hm b)
  rw [Int.toNat_of_nonneg a, Int.toNat_of_nonneg c] at e
  unfold geG subZ
  rw [e, decide_eq_true_eq]

theorem gr_mem {m : Nat} (hm : m ≤ 6) {zs : List Int} (hS : Sets m zs) (z : Int) : z ∈ grZ zs ↔ z ∈ zs ∧ ∀ o ∈ zs, subZ z o → o = z := by
  unfold grZ
  rw [unbeaten_mem]
  constructor
  · rintro ⟨h1, h2⟩
    refine ⟨h1, fun o ho hs => ?_⟩
    unfold beaten at h2
    rw [List.any_eq_false] at h2
    have := h2 o ho
    unfold beatBy at this
    by_cases e : o = z
    · exact e
    · exact (this (by rw [Bool.and_eq_true]; exact ⟨by rw [bne_iff_ne]; exact e, (geG_sub hm hS ho h1).2 hs⟩)).elim
  · rintro ⟨h1, h2⟩
    refine ⟨h1, ?_⟩
    unfold beaten
    rw [List.any_eq_false]
    intro o ho hb
    unfold beatBy at hb
    rw [Bool.and_eq_true, bne_iff_ne] at hb
    exact hb.1 (h2 o ho ((geG_sub hm hS ho h1).1 hb.2))

theorem gr_sub {zs : List Int} {z : Int} (h : z ∈ grZ zs) : z ∈ zs := ((unbeaten_mem _ _ _).1 h).1
theorem gr_sets {m : Nat} {zs : List Int} (hS : Sets m zs) : Sets m (grZ zs) := fun z h => hS z (gr_sub h)
theorem gr_ext {m : Nat} (hm : m ≤ 6) {zs ys : List Int} (hz : Sets m zs) (hy : Sets m ys) (h : ∀ z, (z ∈ zs ∧ ∀ o ∈ zs, subZ z o → o = z) ↔ (z ∈ ys ∧ ∀ o ∈ ys, subZ z o → o = z)) : grZ zs = grZ ys :=
  asc_ext _ _ (unbeaten_asc _ _) (unbeaten_asc _ _) fun z => by
    show z ∈ grZ zs ↔ z ∈ grZ ys
    rw [gr_mem hm hz, gr_mem hm hy]; exact h z

theorem gr_mems {m : Nat} (hm : m ≤ 6) {zs ys : List Int} (hz : Sets m zs) (h : ∀ z, z ∈ zs ↔ z ∈ ys) : grZ zs = grZ ys :=
  gr_ext hm hz (fun z hz' => hz z ((h z).2 hz')) fun z => ⟨fun ⟨a, b⟩ => ⟨(h z).1 a, fun o ho => b o ((h o).2 ho)⟩, fun ⟨a, b⟩ => ⟨(h z).2 a, fun o ho => b o ((h o).1 ho)⟩⟩

theorem gr_above {m : Nat} (hm : m ≤ 6) {zs : List Int} (hS : Sets m zs) : ∀ (n : Nat) (z : Int), 64 - z.toNat = n → z ∈ zs → ∃ o ∈ grZ zs, subZ z o := by
  intro n
  induction n using Nat.strongRecOn with
  | ind n ih =>
    intro z hn hz
    by_cases h : ∀ o ∈ zs, subZ z o → o = z
    · exact ⟨z, (gr_mem hm hS z).2 ⟨hz, h⟩, subZ_refl z⟩
    · obtain ⟨o, ho⟩ := Classical.not_forall.1 h
      obtain ⟨h1, ho⟩ := Classical.not_imp.1 ho
      obtain ⟨h2, h3⟩ := Classical.not_imp.1 ho
      have hlt := subZ_lt (hS z hz).1 (hS o h1).1 h2 (fun e => h3 e.symm)
      have h64 := p64 hm (hS o h1).2
      obtain ⟨p, hp, hs⟩ := ih (64 - o.toNat) (by omega) o rfl h1
      exact ⟨p, hp, subZ_trans h2 hs⟩

theorem gr_gr {m : Nat} (hm : m ≤ 6) {zs : List Int} (hS : Sets m zs) : grZ (grZ zs) = grZ zs :=
  gr_ext hm (gr_sets hS) hS fun z => by
    constructor
    · rintro ⟨h1, h2⟩
      exact (gr_mem hm hS z).1 h1
    · rintro ⟨h1, h2⟩
      exact ⟨(gr_mem hm hS z).2 ⟨h1, h2⟩, fun o ho => h2 o (gr_sub ho)⟩

theorem gr_map {m : Nat} (hm : m ≤ 6) {zs : List Int} (hS : Sets m zs) (f : Int → Int) (hf : Sets m (zs.map f)) (mono : ∀ x ∈ zs, ∀ y ∈ zs, subZ x y → subZ (f x) (f y)) : grZ ((grZ zs).map f) = grZ (zs.map f) := by
  have hf2 : Sets m ((grZ zs).map f) := fun z h => by
    obtain ⟨x, hx, rfl⟩ := List.mem_map.1 h
    exact hf _ (List.mem_map.2 ⟨x, gr_sub hx, rfl⟩)
  have key : ∀ x ∈ zs, ∃ y ∈ grZ zs, subZ (f x) (f y) := fun x hx => by
    obtain ⟨y, hy, hs⟩ := gr_above hm hS _ x rfl hx
    exact ⟨y, hy, mono x hx y (gr_sub hy) hs⟩
  refine gr_ext hm hf2 hf fun z => ?_
  constructor
  · rintro ⟨h1, h2⟩
    obtain ⟨x, hx, rfl⟩ := List.mem_map.1 h1
    refine ⟨List.mem_map.2 ⟨x, gr_sub hx, rfl⟩, fun o ho hs => ?_⟩
    obtain ⟨y, hy, rfl⟩ := List.mem_map.1 ho
    obtain ⟨p, hp, hps⟩ := key y hy
    have e := h2 _ (List.mem_map.2 ⟨p, hp, rfl⟩) (subZ_trans hs hps)
    rw [e] at hps
    exact (subZ_anti (hf _ (List.mem_map.2 ⟨x, gr_sub hx, rfl⟩)).1 (hf _ ho).1 hs hps).symm
  · rintro ⟨h1, h2⟩
    obtain ⟨x, hx, rfl⟩ := List.mem_map.1 h1
    obtain ⟨p, hp, hps⟩ := key x hx
    have e := h2 _ (List.mem_map.2 ⟨p, gr_sub hp, rfl⟩) hps
    refine ⟨List.mem_map.2 ⟨p, hp, e⟩, fun o ho hs => ?_⟩
    obtain ⟨y, hy, rfl⟩ := List.mem_map.1 ho
    exact h2 _ (List.mem_map.2 ⟨y, gr_sub hy, rfl⟩) hs

/-- A set without a member. -/
def woZ (v : Nat) (z : Int) : Int := ((woP z.toNat v : Nat) : Int)

theorem cutL_map (v : Nat) (zs : List Int) : cutL v zs = zs.map (woZ v) := rfl
theorem woZ_sets {m v : Nat} {zs : List Int} (hS : Sets m zs) : Sets m (zs.map (woZ v)) := fun z h => by
  obtain ⟨x, hx, rfl⟩ := List.mem_map.1 h
  refine ⟨Int.natCast_nonneg _, ?_⟩
  unfold woZ
  rw [Int.toNat_natCast]
  exact Nat.lt_of_le_of_lt (wo_le _ _) (hS x hx).2

theorem woZ_mono (v : Nat) {x y : Int} (h : subZ x y) : subZ (woZ v x) (woZ v y) := by
  unfold subZ woZ woP at *
  rw [Int.toNat_natCast, Int.toNat_natCast]
  rw [show x.toNat &&& (63 - 2 ^ v) &&& (y.toNat &&& (63 - 2 ^ v)) = (x.toNat &&& y.toNat) &&& ((63 - 2 ^ v) &&& (63 - 2 ^ v)) by
    rw [Nat.and_assoc, Nat.and_assoc, ← Nat.and_assoc (63 - 2 ^ v) y.toNat, Nat.and_comm (63 - 2 ^ v) y.toNat, Nat.and_assoc]]
  rw [h, Nat.and_self]

theorem woZ_comm (u v : Nat) (z : Int) : woZ u (woZ v z) = woZ v (woZ u z) := by
  unfold woZ woP
  rw [Int.toNat_natCast, Int.toNat_natCast, Nat.and_assoc, Nat.and_assoc, Nat.and_comm (63 - 2 ^ v)]

set_option maxRecDepth 100000 in
theorem wo_bits_fin : ∀ s : Fin 64, ∀ v u : Fin 6, (woP s.val v.val).testBit u.val = (s.val.testBit u.val && decide (u.val ≠ v.val)) := by decide +kernel

theorem woZ_bit {z : Int} (hz : z.toNat < 64) {u v : Nat} (hu : u < 6) (hv : v < 6) : Bt u (woZ v z) = (Bt u z && decide (u ≠ v)) := by
  unfold Bt woZ
  rw [Int.toNat_natCast]
  exact wo_bits_fin ⟨_, hz⟩ ⟨v, hv⟩ ⟨u, hu⟩

theorem woZ_same {z : Int} (h0 : 0 ≤ z) (hz : z.toNat < 64) {v : Nat} (hv : v < 6) (h : Bt v z = false) : woZ v z = z := by
  unfold woZ
  rw [(wo_part hz hv).2.2.2 h]
  omega

/-- A member that just one set has. -/
def D1 (v : Nat) (G : List Int) : Prop := ∃ x ∈ G, Bt v x = true ∧ ∀ y ∈ G, Bt v y = true → y = x

def stepZ (v : Nat) (G : List Int) : List Int := grZ (G.map (woZ v))
theorem stepZ_sets {m v : Nat} {G : List Int} (hS : Sets m G) : Sets m (stepZ v G) := gr_sets (woZ_sets hS)
theorem d1_keeps {m : Nat} (hm : m ≤ 6) {G : List Int} (hS : Sets m G) {u v : Nat} (hu : u < 6) (hv : v < 6) (hne : v ≠ u) (h : D1 v G) : D1 v (stepZ u G) := by
  obtain ⟨x, hx, hb, hq⟩ := h
  have hl : ∀ z ∈ G, z.toNat < 64 := fun z hz => p64 hm (hS z hz).2
  have one : ∀ y ∈ G, Bt v (woZ u y) = true → y = x := fun y hy h => by
    rw [woZ_bit (hl y hy) hv hu, Bool.and_eq_true] at h
    exact hq y hy h.1
  have hbx : Bt v (woZ u x) = true := by rw [woZ_bit (hl x hx) hv hu, hb, decide_eq_true hne]; rfl
  refine ⟨woZ u x, (gr_mem hm (woZ_sets hS) _).2 ⟨List.mem_map.2 ⟨x, hx, rfl⟩, fun o ho hs => ?_⟩, hbx, fun y hy h => ?_⟩
  · obtain ⟨y, hy, rfl⟩ := List.mem_map.1 ho
    rw [one y hy (subZ_bit hs hbx)]
  · obtain ⟨z, hz, rfl⟩ := List.mem_map.1 (gr_sub hy)
    rw [one z hz h]

theorem step_comm {m : Nat} (hm : m ≤ 6) {G : List Int} (hS : Sets m G) (u v : Nat) : stepZ v (stepZ u G) = stepZ u (stepZ v G) := by
  have h : ∀ a b, stepZ a (stepZ b G) = grZ ((G.map (woZ b)).map (woZ a)) := fun a b => by
    unfold stepZ
    exact gr_map hm (woZ_sets hS) (woZ a) (woZ_sets (woZ_sets hS)) fun x _ y _ h => woZ_mono a h
  rw [h, h, List.map_map, List.map_map]
  congr 1
  refine List.map_congr_left fun z _ => ?_
  exact woZ_comm v u z

/-- What reducing leads to, a member at a time. -/
inductive Red (m : Nat) : List Int → List Int → Prop
  | refl (G : List Int) : Red m G G
  | head {G N : List Int} (v : Nat) (hv : v < m) (h : D1 v G) (r : Red m (stepZ v G) N) : Red m G N

def Done (m : Nat) (G : List Int) : Prop := ∀ v, v < m → ¬ D1 v G
theorem Red.trans {m : Nat} {G H N : List Int} (h : Red m G H) (h2 : Red m H N) : Red m G N := by
  induction h with
  | refl _ => exact h2
  | head v hv h _ ih => exact .head v hv h (ih h2)

theorem Red.one {m v : Nat} {G : List Int} (hv : v < m) (h : D1 v G) : Red m G (stepZ v G) := .head v hv h (.refl _)
theorem Red.swap {m : Nat} (hm : m ≤ 6) {G N : List Int} (h : Red m G N) (hN : Done m N) : ∀ (_ : Sets m G) (u : Nat) (_ : u < m) (_ : D1 u G), Red m (stepZ u G) N := by
  induction h with
  | refl G => exact fun _ u hu hd => (hN u hu hd).elim
  | @head G N v hv h r ih =>
    intro hS u hu hd
    by_cases e : u = v
    · subst e; exact r
    · have h1 := ih hN (stepZ_sets hS) u hu (d1_keeps hm hS (by omega) (by omega) e hd)
      rw [step_comm hm hS] at h1
      exact .head v hv (d1_keeps hm hS (by omega) (by omega) (fun e' => e e'.symm) h) h1

theorem Red.unique {m : Nat} (hm : m ≤ 6) {G N N' : List Int} (h : Red m G N) (hN : Done m N) (h' : Red m G N') (hN' : Done m N') (hS : Sets m G) : N = N' := by
  induction h' with
  | refl G =>
    cases h with
    | refl _ => rfl
    | head v hv h _ => exact (hN' v hv h).elim
  | @head G N' v hv hd r ih => exact ih (h.swap hm hN hS v hv hd) hN' (stepZ_sets hS)

theorem Red.sets {m : Nat} {G N : List Int} (h : Red m G N) (hS : Sets m G) : Sets m N := by
  induction h with
  | refl _ => exact hS
  | head v _ _ _ ih => exact ih (stepZ_sets hS)

theorem Red.grs {m : Nat} (hm : m ≤ 6) {G N : List Int} (h : Red m G N) (hS : Sets m G) (hG : grZ G = G) : grZ N = N := by
  induction h with
  | refl _ => exact hG
  | head v _ _ _ ih => exact ih (stepZ_sets hS) (gr_gr hm (woZ_sets hS))

end Go.Proofs.YtnpfdgbbcapnkaaDoor

/- It is proved that the drawn clubs are a list of the call's own; conditions: those of each statement. -/
namespace Go.Proofs.YtnpfdgbbcapnkaaDoor
open Go.RowKit

/-- A draw is under way: the reader's block alone has turned since w. -/
structure DS (w : World) (R : Nat) (b : Option Addr) (n cap P : Nat) (W : World) : Prop where
  rd : ∃ p, p ≤ P ∧ Rd W R b n cap p
  gr : w.grownBy W (some R)

theorem grow_drew {w W : World} {row : Option Nat} (h : w.grownBy W row) : w.grownBy W.drew row := ⟨h.os, h.tape, h.output, h.size, h.block⟩
theorem DS.drew {w : World} {R : Nat} {b : Option Addr} {n cap P : Nat} {W : World} (h : DS w R b n cap P W) : DS w R b n cap P W.drew := ⟨h.rd, grow_drew h.gr⟩
theorem DS.mono {w : World} {R : Nat} {b : Option Addr} {n cap P Q : Nat} {W : World} (h : DS w R b n cap P W) (hP : P ≤ Q) : DS w R b n cap Q W := by
  obtain ⟨p, hp, hr⟩ := h.rd
  exact ⟨⟨p, by omega, hr⟩, h.gr⟩

theorem DS.step {w : World} {R : Nat} {b : Option Addr} {n cap P : Nat} {W W' : World} (h : DS w R b n cap P W) {row : Option Nat} (hg : W.grownBy W' row) (hr : ∀ g, row = some g → w.heap.size ≤ g) (hR : R < w.heap.size) : DS w R b n cap P W' := by
  obtain ⟨p, hp, hrd⟩ := h.rd
  refine ⟨⟨p, hp, HasBlk.kept hrd hg (fun e => by have := hr R e; omega)⟩, ⟨hg.os.trans h.gr.os, hg.tape.trans h.gr.tape, hg.output.trans h.gr.output, Nat.le_trans h.gr.size hg.size, fun i hi hne => ?_⟩⟩
  exact (hg.block i (Nat.lt_of_lt_of_le hi h.gr.size) (fun e => by have := hr i e.symm; omega)).trans (h.gr.block i hi hne)

theorem DS.alloc {w : World} {R : Nat} {b : Option Addr} {n cap P : Nat} {W : World} (h : DS w R b n cap P W) (o : Obj) (hR : R < w.heap.size) : DS w R b n cap P (W.alloc o) :=
  h.step (World.grownBy_alloc W o none) (fun g e => by cases e) hR

theorem Bys.kept {w W : World} {R : Nat} {b : Option Addr} {n : Nat} (h : Bys w R b n) (hR : R < w.heap.size) (hg : w.grownBy W (some R)) : Bys W R b n := by
  rcases h with h | ⟨g, off, e, hgR, hc⟩
  · exact .inl h
  · refine .inr ⟨g, off, e, hgR, fun j hj => ?_⟩
    obtain ⟨z, hz, hcz⟩ := hc j hj
    exact ⟨z, hz, (World.cell?_of_block (a := ⟨g, off + j, none⟩) (hg.block g (by omega) (fun e => by injection e; omega))).trans hcz⟩

theorem own_grown {W W' : World} {B : Nat} {v : Value} {k : Nat} {xs : List Value} {R : Nat} (h : W.ownsRow B 3 1 v k xs) (hg : W.grownBy W' (some R)) (hR : R < B) : W'.ownsRow B 3 1 v k xs := by
  refine World.ownsRow.kept h hg ?_
  cases ho : v.ownBlock with
  | none => exact .inl rfl
  | some g =>
    right
    intro e
    have := (World.ownsRow.lt h g ho).1
    injection e with e
    omega

def PickedD (w : World) (R : Nat) (b : Option Addr) (n cap P : Nat) (x : Int) (W : World) (e : Ending) (W' : World) : Prop :=
  ∃ r : Nat, e = .returned (.int .i64 (r : Int)) ∧ (1 ≤ x → (r : Int) < x) ∧ DS w R b n cap (P + 1) W' ∧ W.grownBy W' (some R)

theorem pickX {w : World} {R : Nat} {b : Option Addr} {n cap P : Nat} {W : World} (hD : DS w R b n cap P W) (hB : Bys w R b n) (hR : R < w.heap.size) (hn : n ≤ 1048576) (hP : P ≤ 1000000) (x : Int) :
    Calls Tryd.prog 74 #[.pointer (some ⟨R, 0, none⟩), .int .i64 x] W (PickedD w R b n cap P x W) := by
  obtain ⟨p, hp, hr⟩ := hD.rd
  refine (pick_any R b n cap p x W hr (hB.kept hR hD.gr) hn (by omega)).mono fun e W' h => ?_
  obtain ⟨r, rfl, h0, h1, h2, h3⟩ := h
  refine ⟨r.toNat, by rw [Int.toNat_of_nonneg h0], fun h => by rw [Int.toNat_of_nonneg h0]; exact h1 h, ⟨⟨p + 1, by omega, h2⟩, only_trans hD.gr h3⟩, h3⟩

theorem pickD {w : World} {R : Nat} {b : Option Addr} {n cap P : Nat} {W : World} (hD : DS w R b n cap P W) (hB : Bys w R b n) (hR : R < w.heap.size) (hn : n ≤ 1048576) (hP : P ≤ 1000000) (x : Int) (_hx : x ≤ 1000000) (_hx0 : -1000000 ≤ x) :
    Calls Tryd.prog 74 #[.pointer (some ⟨R, 0, none⟩), .int .i64 x] W (PickedD w R b n cap P x W) := pickX hD hB hR hn hP x

theorem own_more {W : World} {B : Nat} {a : Option Addr} {k c : Nat} {zs : List Int} {x : Int} (h : W.ownsRow B 3 1 (.slice a k c) k (zs.map (Value.int .i64) ++ [.int .i64 x])) : OwnN W B a k c (zs ++ [x]) := by
  unfold OwnN; rw [List.map_append]; exact h

def DrawnL (w : World) (R : Nat) (b : Option Addr) (n cap P most : Nat) (e : Ending) (W : World) : Prop :=
  ∃ (a : Option Addr) (zs : List Int) (c : Nat), e = .returned (.slice a zs.length c) ∧ zs.length ≤ most ∧ OwnI W w.heap.size (.slice a zs.length c) zs ∧ DS w R b n cap (P + 100) W

set_option maxRecDepth 100000 in
set_option maxHeartbeats 4000000 in
theorem clubsD_any (R : Nat) (b : Option Addr) (n cap P k most : Nat) (w : World) (hD : DS w R b n cap P w) (hB : Bys w R b n) (hR : R < w.heap.size) (hn : n ≤ 1048576) (hP : P ≤ 100000) (hk1 : 1 ≤ k) (hk : k ≤ 6) (hm : most ≤ 9) :
    Calls Tryd.prog 108 #[.pointer (some ⟨R, 0, none⟩), .int .i64 (k : Int), .int .i64 (most : Int)] w (DrawnL w R b n cap P most) := by
  obtain ⟨i0, hi0, hz0, hz1, hz2⟩ := info_parts Tryd.info3
  have HD0 := Lib.hid (hD.alloc (.cells #[] 3) hR)
  have HB := Lib.hid hB
  obtain ⟨hp1, hp2⟩ := p2_small k (by omega)
  clear hD hB
  go_enter Tryd.func108, Tryd.ntmps108
  go_wp2_with fail
  refine (pickD HD0.out HB.out hR hn (by omega) _ (by omega) (by omega)).mono ?_
  rintro e w1 ⟨kk, rfl, hkk, D1, g1⟩
  have hkk2 : (kk : Int) < (most : Int) + 1 := hkk (by omega)
  have HD1 := Lib.hid D1
  have HE1 : Hid (OwnN w1 w.heap.size (some ⟨w.heap.size, 0, none⟩) 0 0 []) := Lib.hid (own_grown (own_empty (alloc_new w _) (Nat.le_refl _)) g1 hR)
  clear D1 g1 hkk
  go_wp2_with fail
  refine (pickD HD1.out HB.out hR hn (by omega) _ (by omega) (by omega)).mono ?_
  rintro e w2 ⟨kd, rfl, hkd, D2, g2⟩
  have hkd2 : kd < 4 := by have := hkd (by omega); omega
  have HD2 := Lib.hid D2
  have HE2 : Hid (OwnN w2 w.heap.size (some ⟨w.heap.size, 0, none⟩) 0 0 []) := Lib.hid (own_grown HE1.out g2 hR)
  clear D2 g2 hkd HD1 HE1 HD0
  go_wp2
  go_loopw [7, 10] (fun v i wr => ∃ (j : Nat) (a' : Option Addr) (c' : Nat) (zs : List Int), j ≤ kk ∧ i = .int .i64 (j : Int) ∧ v = .slice a' j c' ∧ OwnN wr w.heap.size a' j c' zs ∧ DS w R b n cap (P + 2 + 3 * j) wr) (fun _ i _ => kk - (intOf i).toNat)
  case atStart => exact ⟨0, _, _, [], Nat.zero_le _, rfl, rfl, HE2.out, HD2.out⟩
  case round =>
    obtain ⟨j, a', c', zs, hj, rfl, rfl, ho, hd⟩ := hrel
    obtain ⟨wo, hwo⟩ : ∃ wo, wo = wr := ⟨wr, rfl⟩
    subst hwo
    have HO := Lib.hid ho
    have HD := Lib.hid hd
    clear ho hd
    by_cases hlt : j < kk
    · go_wp2_with fail
      refine (pickD HD.out HB.out hR hn (by omega) _ (by omega) (by omega)).mono ?_
      rintro e w3 ⟨r3, rfl, -, D3, g3⟩
      have HD3 := Lib.hid D3
      have HO3 := Lib.hid (own_grown HO.out g3 hR)
      clear D3 g3 HD HO
      have hkds : (kd : Int) < 1 ∨ (0 < (kd : Int) ∧ (kd : Int) < 2) ∨ (1 < (kd : Int) ∧ (kd : Int) < 3) ∨ 2 < (kd : Int) := by omega
      rcases hkds with hka | ⟨hka, hkb⟩ | ⟨hka, hkb⟩ | hka
      · go_wp2
        go_region_with (first
          | (go_at_call 74; refine (pickD HD3.out.drew HB.out hR hn (by omega) _ (by omega) (by omega)).mono ?_; rintro e w4 ⟨r4, rfl, h4, D4, g4⟩)
          | (go_at_call 74; refine (pickD D4 HB.out hR hn (by omega) _ (by omega) (by omega)).mono ?_; rintro e w5 ⟨r5, rfl, h5, D5, g5⟩))
        have HD5 := Lib.hid D5
        have HO5 := Lib.hid (own_grown (own_grown (W := w3.drew) HO3.out g4 hR) g5 hR)
        clear D4 D5 g4 g5 HD3 HO3 h4 h5
        have hsz5 := HD5.out.gr.size
        go_wp2_with (at_builtin; refine wpList_append_own _ rfl _ _ 23 rfl w.heap.size 3 i0 (.int .i64 0) 1 8 Tryd.underlying23 hi0 hz0 hz1 hz2 rfl (by decide) _ _ _ rfl (HO5.out.alloc _) ⟨w5.heap.size, 0, none⟩ 1 1 [.int .i64 _] rfl rfl (cell_one_new _ _ _) (by simp [Value.oneCell']) (by simp only [maxLen]; omega) (by omega) (by simp; omega) ?_; intro v' w9 hown hgrow _; obtain ⟨g', cap', rfl, _, _⟩ := World.ownsRow.form hown (by omega))
        go_roundw
        case rel => exact ⟨j + 1, _, _, _, by omega, by go_num, rfl, own_more hown, ((HD5.out.alloc _ hR).step hgrow (fun g e => (World.ownsRow.lt HO5.out g e).1) hR).mono (by omega)⟩
        case measure => simp [intOf]; omega
      · go_wp2_with fail
        refine (pickD HD3.out HB.out hR hn (by omega) _ (by omega) (by omega)).mono ?_
        rintro e w4 ⟨r4, rfl, h4, D4, g4⟩
        have h4k := h4 (by omega)
        have HD4 := Lib.hid D4
        have HO4 := Lib.hid (own_grown HO3.out g4 hR)
        clear D4 g4 HD3 HO3 h4
        go_wp2_with fail
        refine (pickD HD4.out HB.out hR hn (by omega) _ (by omega) (by omega)).mono ?_
        rintro e w5 ⟨r5, rfl, h5, D5, g5⟩
        have h5k := h5 (by omega)
        have HD5 := Lib.hid D5
        have HO5 := Lib.hid (own_grown HO4.out g5 hR)
        clear D5 g5 HD4 HO4 h5
        have hsz5 := HD5.out.gr.size
        go_wp2_with (at_builtin; refine wpList_append_own _ rfl _ _ 23 rfl w.heap.size 3 i0 (.int .i64 0) 1 8 Tryd.underlying23 hi0 hz0 hz1 hz2 rfl (by decide) _ _ _ rfl (HO5.out.alloc _) ⟨w5.heap.size, 0, none⟩ 1 1 [.int .i64 _] rfl rfl (cell_one_new _ _ _) (by simp [Value.oneCell']) (by simp only [maxLen]; omega) (by omega) (by simp; omega) ?_; intro v' w9 hown hgrow _; obtain ⟨g', cap', rfl, _, _⟩ := World.ownsRow.form hown (by omega))
        go_roundw
        case rel => exact ⟨j + 1, _, _, _, by omega, by go_num, rfl, own_more hown, ((HD5.out.alloc _ hR).step hgrow (fun g e => (World.ownsRow.lt HO5.out g e).1) hR).mono (by omega)⟩
        case measure => simp [intOf]; omega
      · go_wp2
        go_region_with (first
          | (go_at_call 74; refine (pickD HD3.out.drew HB.out hR hn (by omega) _ (by omega) (by omega)).mono ?_; rintro e w4 ⟨r4, rfl, h4, D4, g4⟩)
          | (go_at_call 74; refine (pickD D4 HB.out hR hn (by omega) _ (by omega) (by omega)).mono ?_; rintro e w5 ⟨r5, rfl, h5, D5, g5⟩))
        have HD5 := Lib.hid D5
        have HO5 := Lib.hid (own_grown (own_grown (W := w3.drew) HO3.out g4 hR) g5 hR)
        clear D4 D5 g4 g5 HD3 HO3 h4 h5
        have hsz5 := HD5.out.gr.size
        go_wp2_with (at_builtin; refine wpList_append_own _ rfl _ _ 23 rfl w.heap.size 3 i0 (.int .i64 0) 1 8 Tryd.underlying23 hi0 hz0 hz1 hz2 rfl (by decide) _ _ _ rfl (HO5.out.alloc _) ⟨w5.heap.size, 0, none⟩ 1 1 [.int .i64 _] rfl rfl (cell_one_new _ _ _) (by simp [Value.oneCell']) (by simp only [maxLen]; omega) (by omega) (by simp; omega) ?_; intro v' w9 hown hgrow _; obtain ⟨g', cap', rfl, _, _⟩ := World.ownsRow.form hown (by omega))
        go_roundw
        case rel => exact ⟨j + 1, _, _, _, by omega, by go_num, rfl, own_more hown, ((HD5.out.alloc _ hR).step hgrow (fun g e => (World.ownsRow.lt HO5.out g e).1) hR).mono (by omega)⟩
        case measure => simp [intOf]; omega
      · have hsz3 := HD3.out.gr.size
        go_wp2_with (at_builtin; refine wpList_append_own _ rfl _ _ 23 rfl w.heap.size 3 i0 (.int .i64 0) 1 8 Tryd.underlying23 hi0 hz0 hz1 hz2 rfl (by decide) _ _ _ rfl (HO3.out.alloc _) ⟨w3.heap.size, 0, none⟩ 1 1 [.int .i64 (r3 : Int)] rfl rfl (cell_one_new _ _ _) (by simp [Value.oneCell']) (by simp only [maxLen]; omega) (by omega) (by simp; omega) ?_; intro v' w9 hown hgrow _; obtain ⟨g', cap', rfl, _, _⟩ := World.ownsRow.form hown (by omega))
        go_roundw
        case rel => exact ⟨j + 1, _, _, _, by omega, by go_num, rfl, own_more hown, ((HD3.out.alloc _ hR).step hgrow (fun g e => (World.ownsRow.lt HO3.out g e).1) hR).mono (by omega)⟩
        case measure => simp [intOf]; omega
    · obtain rfl : j = kk := by omega
      have hlen : zs.length = j := by have := HO.out.1; simpa using this
      have HR : Hid (DrawnL w R b n cap P most (.returned (.slice a' j c')) wo) := Lib.hid ⟨a', zs, c', by rw [hlen], by omega, by unfold OwnI; rw [hlen]; exact HO.out, HD.out.mono (by omega)⟩
      go_wp2
      go_ret
      exact HR.out

end Go.Proofs.YtnpfdgbbcapnkaaDoor

/- It is proved that the drawn family is one of the call's own; conditions: those of each statement. -/
namespace Go.Proofs.YtnpfdgbbcapnkaaDoor
open Go.RowKit

theorem DS.rebase {w : World} {R : Nat} {b : Option Addr} {n cap P : Nat} {W : World} (h : DS w R b n cap P W) : DS W R b n cap P W := ⟨h.rd, World.grownBy.refl _ _⟩
theorem DS.over {w w1 W : World} {R : Nat} {b : Option Addr} {n cap P : Nat} (h : DS w1 R b n cap P W) (hg : w.grownBy w1 (some R)) : DS w R b n cap P W := ⟨h.rd, only_trans hg h.gr⟩
theorem blk_grown {R : Nat} {W W' : World} {g : Nat} {cs : Array Value} {t : TypeId} (h : HasBlk W g cs t) (hg : W.grownBy W' (some R)) (hR : R < g) : HasBlk W' g cs t := h.kept hg (fun e => by injection e; omega)
theorem own_drew {W : World} {B size n : Nat} {e : TypeId} {v : Value} {xs : List Value} (h : W.ownsRow B e size v n xs) : W.drew.ownsRow B e size v n xs := h
def DrawnF (w : World) (R : Nat) (b : Option Addr) (n cap P most : Nat) (e : Ending) (W : World) : Prop :=
  ∃ (m : Int) (a : Option Addr) (zs : List Int) (c : Nat), e = .returned (.agg #[.int .i64 m, .slice a zs.length c]) ∧ (zs.length ≤ most + 1 ∧ 1 ≤ m ∧ m ≤ 6) ∧ OwnI W w.heap.size (.slice a zs.length c) zs ∧ DS w R b n cap (P + 200) W

set_option maxRecDepth 100000 in
set_option maxHeartbeats 4000000 in
theorem someD_any (mm most : Nat) (Mm M : Int) (hMm : Mm = (mm : Int)) (hM : M = (most : Int)) (hmm1 : 1 ≤ mm) (hmm : mm ≤ 6) (hmo : most ≤ 9) (R : Nat) (b : Option Addr) (n cap P : Nat) (w : World) (hD : DS w R b n cap P w) (hB : Bys w R b n) (hR : R < w.heap.size) (hn : n ≤ 1048576) (hP : P ≤ 1000) :
    Calls Tryd.prog 73 #[.pointer (some ⟨R, 0, none⟩), .int .i64 Mm, .int .i64 M] w (DrawnF w R b n cap P most) := by
  subst hMm
  subst hM
  obtain ⟨i0, hi0, hz0, hz1, hz2⟩ := info_parts Tryd.info3
  have HD0 := Lib.hid (hD.alloc (.cells #[.int .i64 0, .slice none 0 0] 25) hR)
  have HB := Lib.hid hB
  have HX0 : Hid (HasBlk (w.alloc (.cells #[.int .i64 0, .slice none 0 0] 25)) w.heap.size #[.int .i64 0, .slice none 0 0] 25) := Lib.hid (alloc_new w _)
  clear hD hB
  go_enter Tryd.func73, Tryd.ntmps73
  go_wp2_with fail
  refine (pickD HD0.out HB.out hR hn (by omega) _ (by omega) (by omega)).mono ?_
  rintro e w1 ⟨r1, rfl, h1, D1, g1⟩
  have h16 : r1 < mm := by have := h1 (by omega); omega
  have HX1 : Hid (HasBlk w1 w.heap.size #[.int .i64 0, .slice none 0 0] 25) := Lib.hid (HX0.out.kept g1 (fun e => by injection e; omega))
  have hs1 : w.heap.size < w1.heap.size := lt_of_some HX1.out
  have HD1 := Lib.hid D1
  clear D1 g1 h1 HD0 HX0
  go_wp2_with fail
  rw [show (1 : Int) + (r1 : Int) = ((1 + r1 : Nat) : Int) from by omega]
  refine (clubsD_any R b n cap _ (1 + r1) most w1 HD1.out.rebase (HB.out.kept hR HD1.out.gr) (by omega) hn (by omega) (by omega) (by omega) (by omega)).mono ?_
  rintro e w2 ⟨a2, zs, c2, rfl, hl, ho, D2⟩
  have hs2 : w1.heap.size ≤ w2.heap.size := D2.gr.size
  have HX2 : Hid (HasBlk w2 w.heap.size #[.int .i64 0, .slice none 0 0] 25) := Lib.hid (HX1.out.kept D2.gr (fun e => by injection e; omega))
  have HD2 := Lib.hid (D2.over HD1.out.gr)
  have HO2 : Hid (OwnN w2 w1.heap.size a2 zs.length c2 zs) := Lib.hid ho
  have hgb : ∀ g, (Value.slice a2 zs.length c2).ownBlock = some g → w1.heap.size ≤ g ∧ g < w2.heap.size := fun g e => World.ownsRow.lt ho g e
  clear ho D2 HD1 HX1
  go_wp2_with fail
  refine (pickD (HD2.out.alloc _ hR) HB.out hR hn (by omega) _ (by omega) (by omega)).mono ?_
  rintro e w4 ⟨r4, rfl, -, D4, g4⟩
  have q0 := blk_grown (HasBlk.alloc HX2.out (.cells #[.int .i64 ((1 + r1 : Nat) : Int), .slice a2 zs.length c2] 25)) g4 hR
  have q1 := blk_grown (alloc_new w2 (.cells #[.int .i64 ((1 + r1 : Nat) : Int), .slice a2 zs.length c2] 25) : HasBlk _ _ _ _) g4 (by omega)
  have HO4 : Hid (OwnN w4 w1.heap.size a2 zs.length c2 zs) := Lib.hid (own_grown (World.ownsRow.alloc HO2.out _) g4 (by omega))
  have HD4 := Lib.hid D4
  have hs4 : w2.heap.size < w4.heap.size := lt_of_some q1
  have x0 := blk_cell q1 0
  have x1 := blk_cell q1 1
  have f1 := blk_frozen q1 1
  have d0 := blk_cell q0 0
  have d1 := blk_cell q0 1
  have e0 := blk_frozen q0 0
  have e1 := blk_frozen q0 1
  simp only [cell2_0, cell2_1] at x0 x1 d0 d1
  have HQ0 := Lib.hid q0
  have HQ1 := Lib.hid q1
  clear D4 g4 q0 q1 HD2 HO2 HX2
  by_cases h4 : r4 = 0
  · have hmx : Tryd.prog.follows .mixedOrders = true := by kernel_rfl
    have hrn : r1 < 6 := by omega
    go_wp2
    go_region_law (refine step_append_lies _ rfl (.tmp 23) (.tmp 26) 23 rfl w1.heap.size 3 i0 (.int .i64 0) 1 8 Tryd.underlying23 hi0 hz0 hz1 hz2 rfl (by decide) _ _ _ rfl (own_drew (World.ownsRow.alloc HO4.out _)) ⟨w4.heap.size, 0, none⟩ 1 1 [.int .i64 _] rfl rfl (World.news_of_block (cs := #[.int .i64 _]) (fr := (0, 0)) (t := 3) (alloc_new w4 _)) (by simp [Value.oneCell']) (by decide) (by simp only [maxLen]; omega) (by omega) (Nat.le_trans (Nat.le_trans hs2 (Nat.le_of_lt hs4)) (Nat.le_trans (Nat.le_succ _) (Nat.le_of_eq (World.size_alloc w4 _).symm))) (w4.heap.size + 1) (World.size_alloc w4 _) ?_; intro g9 c9 w9 hown hg9 hgg hgs; have q9 := HasBlk.kept (W := World.drew (World.alloc w4 _)) (HasBlk.alloc HQ1.out _) hg9 (fun e => by have := hgb _ e; omega); have p9 := HasBlk.kept (W := World.drew (World.alloc w4 _)) (HasBlk.alloc HQ0.out _) hg9 (fun e => by have := hgb _ e; omega); have y0 := (blk_cell q9 0).trans (cell2_0 _ _); have y1 := (blk_cell q9 1).trans (cell2_1 _ _); have yf := blk_frozen q9 1; have z0 := (blk_cell p9 0).trans (cell2_0 _ _); have z1 := (blk_cell p9 1).trans (cell2_1 _ _); have zf0 := blk_frozen p9 0; have zf1 := blk_frozen p9 1)
    all_goals
      have hg9' : (World.drew (World.alloc w4 (.cells #[.int .i64 (IntKind.i64.wrap (2 ^ (1 + (r1 : Int)).toNat))] 3))).grownBy w9 (Value.slice a2 zs.length c2).ownBlock := hg9
      have hgg' : (Value.slice a2 zs.length c2).ownBlock = some g9 ∨ g9 = w4.heap.size + 1 := hgg
      have hg9ne : g9 ≠ w2.heap.size := by
        rcases hgg' with h | h
        · have := hgb _ h; omega
        · omega
      have hg91 : w1.heap.size ≤ g9 := by
        rcases hgg' with h | h
        · have := hgb _ h; omega
        · omega
      have HD9 : Hid (DS w R b n cap (P + 150) w9) := Lib.hid ((((HD4.out.alloc _ hR).drew.step hg9' (fun g e => by have := hgb g e; omega) hR)).mono (by omega))
      have HO9 : Hid (OwnN w9 w1.heap.size (some ⟨g9, 0, none⟩) (zs.length + 1) c9 (zs ++ [IntKind.i64.wrap (2 ^ (1 + (r1 : Int)).toNat)])) := Lib.hid (own_more hown)
      have HQ9 := Lib.hid q9
      clear hg9 hg9' hgg hgg' hown x0 x1 d0 d1 e0 e1 f1 q9 p9
      go_wp2
      refine bodyPost_ret (v := .agg #[.int .i64 ((1 + r1 : Nat) : Int), .slice (some ⟨g9, 0, none⟩) (zs.length + 1) c9]) (by simp [results, Tryd.results73, go_sem, z0, z1]) rfl ?_
      refine ⟨_, some ⟨g9, 0, none⟩, zs ++ [IntKind.i64.wrap (2 ^ (1 + (r1 : Int)).toNat)], c9, by rw [List.length_append]; rfl, ⟨by simp; omega, by omega, by omega⟩, ?_, ?_⟩
      · have h1 := ownsRow_setCell_ne HO9.out (p := ⟨w2.heap.size, 1, none⟩) (by simp [Value.ownBlock]; omega) (.slice (some ⟨g9, 0, none⟩) (zs.length + 1) c9)
        have h2 := ownsRow_setCell_below h1 (a := ⟨w.heap.size, 0, none⟩) hs1 (.int .i64 (1 + (r1 : Int)))
        have h3 := ownsRow_setCell_below h2 (a := ⟨w.heap.size, 1, none⟩) hs1 (.slice (some ⟨g9, 0, none⟩) (zs.length + 1) c9)
        unfold OwnI
        rw [List.length_append]
        exact ownsRow_base h3 (by omega)
      · exact (((HD9.out.step (only_setCell (p := ⟨w2.heap.size, 1, none⟩) (World.grownBy.refl _ (some w2.heap.size)) rfl _) (fun g e => by injection e; omega) hR).step (only_setCell (p := ⟨w.heap.size, 0, none⟩) (World.grownBy.refl _ (some w.heap.size)) rfl _) (fun g e => by injection e; omega) hR).step (only_setCell (p := ⟨w.heap.size, 1, none⟩) (World.grownBy.refl _ (some w.heap.size)) rfl _) (fun g e => by injection e; omega) hR).mono (by omega)
  · go_wp2
    refine bodyPost_ret (v := .agg #[.int .i64 ((1 + r1 : Nat) : Int), .slice a2 zs.length c2]) (by simp [results, Tryd.results73, go_sem, d0, d1]) rfl ?_
    refine ⟨_, a2, zs, c2, rfl, ⟨by omega, by omega, by omega⟩, ?_, ?_⟩
    · exact own_mono (B' := w.heap.size) (ownsRow_setCell_below (ownsRow_setCell_below (show OwnI w4 w1.heap.size _ zs from HO4.out) (a := ⟨w.heap.size, 0, none⟩) hs1 _) (a := ⟨w.heap.size, 1, none⟩) hs1 _) (by omega)
    · exact (((HD4.out.step (only_setCell (p := ⟨w.heap.size, 0, none⟩) (World.grownBy.refl _ (some w.heap.size)) rfl _) (fun g e => by injection e; omega) hR).step (only_setCell (p := ⟨w.heap.size, 1, none⟩) (World.grownBy.refl _ (some w.heap.size)) rfl _) (fun g e => by injection e; omega) hR)).mono (by omega)

end Go.Proofs.YtnpfdgbbcapnkaaDoor
