/- It is proved how boxed families keep what they hold while the laws go on; conditions: those of each statement. -/
import Derived.Test.YtgjcjllhkkkioaaDoorRows
import Derived.WalkKit
import Derived.WalkSpells
import Derived.ProofKit
import Derived.OpenShut
import Derived.ShutString
import Derived.ChangeOld
import Derived.Below
import Derived.Deep.RegionHeld3
import Derived.Deep.QuietTactic
import Derived.BigQuiet
import Derived.Lib.Hide
import Derived.Lib.SmallJoins
import Derived.Outline
import Derived.Laws.MakeOwn
import Derived.Laws.OwnMore
import Derived.IntWalk
import Derived.Test.YtgjcjllhkkkioaaDoorRaaa
import Derived.Test.YtgjcjllhkkkioaaDoorRaab
import Derived.Test.YtgjcjllhkkkioaaDoorRaaf
import Derived.Maps.AppendAt
import Derived.Deep.AppendLies
import Derived.OwnWalk
import Derived.RangeFuncNested
import Derived.RangeFuncBound
import Derived.RangeFuncCalls
import Derived.RangeFuncLeaves
import Derived.RangeFuncBox
import Derived.Shelf.Abstract
import Derived.Shelf.RegionOpen
import Derived.OwnWalkIn
import Derived.TacticsInMore
import Derived.LoopNIn
import Derived.LoopIn
import Derived.Shelf.Spec.TrailingZeros
import Derived.Test.YtgjcjllhkkkioaaDoorRaad
import Derived.Test.YtgjcjllhkkkioaaDoorRaac
import Derived.Test.YtgjcjllhkkkioaaDoorRaae
namespace Go.Proofs.YtgjcjllhkkkioaaDoor
open Go.RowKit

/-- What a function of a family and a bool returns: both, in new memory; nothing that lay has turned. -/
def RetFB (w : World) (m : Int) (zs : List Int) (ok : Bool) (e : Ending) (w' : World) : Prop :=
  ∃ a cap, e = .returned (.tuple #[.agg #[.int .i64 m, .slice a zs.length cap], .bool ok]) ∧ OwnI w' w.heap.size (.slice a zs.length cap) zs ∧ Below w.heap.size w w'

/-- A family in a box of the call's own: block X; its list lies in a block of lo, .., hi - 1, below X. -/
structure XB (X lo hi : Nat) (m : Int) (a : Option Addr) (n cap : Nat) (zs : List Int) (W : World) : Prop where
  x0 : W.cell? ⟨X, 0, none⟩ = some (.int .i64 m)
  x1 : W.cell? ⟨X, 1, none⟩ = some (.slice a n cap)
  own : OwnN W lo a n cap zs
  rng : ∀ g, (Value.slice a n cap).ownBlock = some g → lo ≤ g ∧ g < hi
  hiX : hi ≤ X
  size : X < W.heap.size

theorem XB.len {X lo hi : Nat} {m : Int} {a : Option Addr} {n cap : Nat} {zs : List Int} {W : World} (h : XB X lo hi m a n cap zs W) : zs.length = n := by
  have := h.own.1; simpa using this

theorem XB.ints {X lo hi : Nat} {m : Int} {a : Option Addr} {n cap : Nat} {zs : List Int} {W : World} (h : XB X lo hi m a n cap zs W) : Ints W W.heap.size a zs := by
  have h1 := h.own
  have hl := h.len
  subst hl
  exact own_ints (n := zs.length) (cap := cap) (B := lo) h1

/-- What keeps all blocks but row's keeps the box, if row's block is none of it. -/
theorem XB.kept {X lo hi : Nat} {m : Int} {a : Option Addr} {n cap : Nat} {zs : List Int} {W W' : World} {row : Option Nat} (h : XB X lo hi m a n cap zs W) (hg : W.grownBy W' row)
    (hr : ∀ g, row = some g → (g < lo ∨ hi ≤ g) ∧ g ≠ X) : XB X lo hi m a n cap zs W' := by
  have hX : ∀ o, W'.cell? ⟨X, o, none⟩ = W.cell? ⟨X, o, none⟩ := fun o =>
    World.cell?_of_block (a := ⟨X, o, none⟩) (hg.block X h.size (fun e => (hr X e.symm).2 rfl))
  refine ⟨(hX 0).trans h.x0, (hX 1).trans h.x1, World.ownsRow.kept h.own hg ?_, h.rng, h.hiX, Nat.lt_of_lt_of_le h.size hg.size⟩
  cases ho : (Value.slice a n cap).ownBlock with
  | none => exact .inl rfl
  | some g =>
    right
    intro e
    have h1 := h.rng g ho
    have h2 := hr g e.symm
    omega

theorem XB.step {X lo hi : Nat} {m : Int} {a : Option Addr} {n cap : Nat} {zs : List Int} {W W' : World} (h : XB X lo hi m a n cap zs W) (hb : Below W.heap.size W W') : XB X lo hi m a n cap zs W' :=
  h.kept (only_of_below hb none) (fun g e => by cases e)

theorem XB.drew {X lo hi : Nat} {m : Int} {a : Option Addr} {n cap : Nat} {zs : List Int} {W : World} (h : XB X lo hi m a n cap zs W) : XB X lo hi m a n cap zs W.drew :=
  ⟨h.x0, h.x1, h.own, h.rng, h.hiX, h.size⟩

/-- Its own list marked. -/
theorem XB.marked {X lo hi : Nat} {m : Int} {a : Option Addr} {n cap : Nat} {zs : List Int} {W W' : World} (h : XB X lo hi m a n cap zs W)
    (ho : OwnI W' lo (.slice a n cap) (marks n)) (hg : W.grownBy W' (Value.slice a n cap).ownBlock) : XB X lo hi m a n cap (marks n) W' := by
  have hX : ∀ o, W'.cell? ⟨X, o, none⟩ = W.cell? ⟨X, o, none⟩ := fun o =>
    World.cell?_of_block (a := ⟨X, o, none⟩) (hg.block X h.size (fun e => by have := h.rng X e.symm; have := h.hiX; omega))
  refine ⟨(hX 0).trans h.x0, (hX 1).trans h.x1, ?_, h.rng, h.hiX, Nat.lt_of_lt_of_le h.size hg.size⟩
  have := ho
  unfold OwnI at this
  rwa [marks_length] at this

/-- It begins: a list of the call's own, boxed. -/
theorem XB.start {w : World} {lo : Nat} {m : Int} {a : Option Addr} {cap : Nat} {zs : List Int} (ho : OwnI w lo (.slice a zs.length cap) zs) :
    XB w.heap.size lo w.heap.size m a zs.length cap zs (w.alloc (.cells #[.int .i64 m, .slice a zs.length cap] 26)) :=
  ⟨blk_cell (alloc_new w _) 0, blk_cell (alloc_new w _) 1, World.ownsRow.alloc ho _, fun g e => World.ownsRow.lt ho g e, Nat.le_refl _, by simp⟩

theorem XB.ownI {X lo hi : Nat} {m : Int} {a : Option Addr} {cap : Nat} {zs : List Int} {W : World} (h : XB X lo hi m a zs.length cap zs W) : OwnI W lo (.slice a zs.length cap) zs := h.own
theorem AF.kept {w : World} {m : Int} {a : Option Addr} {cap : Nat} {zs : List Int} {W W' : World} {row : Option Nat} (h : AF w m a cap zs W) (hg : W.grownBy W' row) (hr : ∀ g, row = some g → w.heap.size + 1 ≤ g) : AF w m a cap zs W' := by
  have hb : Below (w.heap.size + 1) W W' := (Below.refl _ _).grown hg h.size hr
  exact ⟨(hb.cell (p := ⟨w.heap.size, 0, none⟩) (by simp)).trans h.x0, (hb.cell (p := ⟨w.heap.size, 1, none⟩) (by simp)).trans h.x1, h.ints.below (hb.mono (by omega)),
    h.below.trans (hb.mono (by omega)), by have := h.size; have := hg.size; omega⟩

end Go.Proofs.YtgjcjllhkkkioaaDoor

/- It is proved what l1None, l1With and the model's FamilyMeet return; conditions: those of each statement. -/
namespace Go.Proofs.YtgjcjllhkkkioaaDoor
open Go.RowKit

theorem alloc2_0 (w : World) (o p : Obj) : ((w.alloc o).alloc p).heap[w.heap.size]? = some o := by rw [alloc_old _ _ _ (by simp), alloc_new]
theorem alloc2_1 (w : World) (o p : Obj) : ((w.alloc o).alloc p).heap[w.heap.size + 1]? = some p := by
  rw [show w.heap.size + 1 = (w.alloc o).heap.size from by simp, alloc_new]

/-- A new empty row. -/
theorem own_empty {w : World} {B g : Nat} (h : w.heap[g]? = some (.cells #[] 3 (0, 0))) (hB : B ≤ g) : OwnI w B (.slice (some ⟨g, 0, none⟩) 0 0) [] :=
  ⟨by simp, .inr ⟨g, 0, #[], rfl, hB, h, Nat.le_refl _, by simp [maxLen], by simp, by simp⟩⟩

set_option maxRecDepth 100000 in
set_option maxHeartbeats 400000 in
theorem l1None_any (w : World) : Calls Tryd.prog 35 #[] w (RetFB w 0 [] false) := by
  go_enter Tryd.func35, Tryd.ntmps35
  go_wp2
  refine bodyPost_ret (v := .tuple #[.agg #[.int .i64 0, .slice (some ⟨w.heap.size + 1, 0, none⟩) 0 0], .bool false]) (by simp [results, Tryd.results35, go_sem]) rfl ?_
  exact ⟨_, _, rfl, own_empty (alloc2_1 w _ _) (by omega), below2 _ _ _⟩

theorem map_at (f : Int → Int) (zs : List Int) (k : Nat) (h : k < zs.length) : (zs.take (k + 1)).map f = (zs.take k).map f ++ [f (zs[k]?.getD 0)] := by
  rw [List.take_succ_eq_append_getElem h, List.map_append]; simp [h]

/-- What a function that maps the clubs comes to. -/
def famMap (c : Bool) (_m : Int) (f : Int → Int) (zs : List Int) : List Int := if c then zs.map f else []

def famM (c : Bool) (m : Int) : Int := if c then m else 0
theorem OwnI.form {w : World} {B : Nat} {v : Value} {zs : List Int} (h : OwnI w B v zs) (hn : 0 < zs.length) : ∃ g cap, v = .slice (some ⟨g, 0, none⟩) zs.length cap ∧ B ≤ g ∧ g < w.heap.size := World.ownsRow.form h hn
end Go.Proofs.YtgjcjllhkkkioaaDoor

/- It is proved what with returns, what a dual is, and what FamilyDual of the program returns where there is none; conditions: those of each statement. -/
namespace Go.Proofs.YtgjcjllhkkkioaaDoor
open Go.RowKit Go.Shelf

set_option maxRecDepth 100000 in
theorem or_fin : ∀ x : Fin 256, ∀ p : Fin 8, bits BinOp.or IntKind.i64 (x.val : Int) (2 ^ p.val) = ((x.val ||| 2 ^ p.val : Nat) : Int) := by decide +kernel

theorem or_at (x p : Nat) (hx : x < 256) (hp : p < 8) : bits BinOp.or IntKind.i64 (x : Int) (2 ^ p) = ((x ||| 2 ^ p : Nat) : Int) := or_fin ⟨x, hx⟩ ⟨p, hp⟩
theorem p2_small (p : Nat) (hp : p < 8) : (2 : Int) ^ p ≤ 128 ∧ 1 ≤ (2 : Int) ^ p := by
  obtain rfl | rfl | rfl | rfl | rfl | rfl | rfl | rfl : p = 0 ∨ p = 1 ∨ p = 2 ∨ p = 3 ∨ p = 4 ∨ p = 5 ∨ p = 6 ∨ p = 7 := by omega
  all_goals decide

theorem with_any (x p : Nat) (hx : x < 256) (hp : p < 8) (w : World) :
    Calls Tryd.prog 64 #[.int .i64 (x : Int), .int .i64 (p : Int)] w fun e w' => e = .returned (.int .i64 ((x ||| 2 ^ p : Nat) : Int)) ∧ w = w' := by
  have hp8 : (p : Int) < 8 := by omega
  obtain ⟨h1, h2⟩ := p2_small p hp
  have HO := Lib.hid (or_at x p hx hp)
  go_enter Tryd.func64, Tryd.ntmps64
  go_wp2
  go_ret
  exact ⟨by rw [HO.out]; rfl, rfl⟩

/-- The clubs that have a member, as a set of places. -/
def dualBits (ps : List (Nat × Nat)) (v : Nat) : Nat := ps.foldl (fun t p => if p.2 = v then t ||| 2 ^ p.1 else t) 0

def dualL (m : Nat) (ps : List (Nat × Nat)) : List Int := (List.range m).map fun v => ((dualBits ps v : Nat) : Int)
theorem dualL_length (m : Nat) (ps : List (Nat × Nat)) : (dualL m ps).length = m := by simp [dualL]
theorem dualL_at (m : Nat) (ps : List (Nat × Nat)) (v : Nat) (h : v < m) : (dualL m ps)[v]? = some ((dualBits ps v : Nat) : Int) := by simp [dualL, h]
theorem dualL_nil (m : Nat) : dualL m [] = List.replicate m 0 := by
  apply List.ext_getElem <;> simp [dualL, dualBits]

theorem dualBits_snoc (ps : List (Nat × Nat)) (p u v : Nat) : dualBits (ps ++ [(p, u)]) v = if u = v then dualBits ps v ||| 2 ^ p else dualBits ps v := by simp [dualBits]
theorem dualL_snoc (m : Nat) (ps : List (Nat × Nat)) (p u : Nat) : dualL m (ps ++ [(p, u)]) = (dualL m ps).set u ((dualBits ps u ||| 2 ^ p : Nat) : Int) := by
  apply List.ext_getElem
  · simp [dualL]
  · intro i h1 h2
    have hi : i < m := by simpa [dualL] using h1
    simp only [dualL, List.getElem_map, List.getElem_range, List.getElem_set, dualBits_snoc]
    by_cases h : u = i
    · subst h; simp
    · simp [h]

theorem dualBits_lt (ps : List (Nat × Nat)) (v : Nat) (h : ∀ x ∈ ps, x.1 < 8) : dualBits ps v < 256 := by
  have : ∀ t, t < 256 → ps.foldl (fun t p => if p.2 = v then t ||| 2 ^ p.1 else t) t < 256 := by
    induction ps with
    | nil => intro t ht; exact ht
    | cons x ps ih =>
      intro t ht
      rw [List.foldl_cons]
      refine ih (fun y hy => h y (by simp [hy])) _ ?_
      split
      · exact Nat.or_lt_two_pow (n := 8) ht (Nat.pow_lt_pow_right (by decide) (h x (by simp)))
      · exact ht
  exact this 0 (by decide)

theorem dualBits_club (ps : List (Nat × Nat)) (i : Nat) (us : List Nat) (v : Nat) : dualBits (ps ++ us.map fun u => (i, u)) v = if v ∈ us then dualBits ps v ||| 2 ^ i else dualBits ps v := by
  induction us generalizing ps with
  | nil => simp
  | cons u us ih =>
    rw [List.map_cons, show ps ++ (i, u) :: us.map (fun u => (i, u)) = (ps ++ [(i, u)]) ++ us.map (fun u => (i, u)) from by simp, ih, dualBits_snoc]
    by_cases h : u = v
    · subst h
      simp [Nat.or_assoc]
    · have h' : ¬ v = u := fun e => h e.symm
      simp [h, h']

set_option maxRecDepth 100000 in
theorem mem_bit : ∀ s, s < 64 → ∀ v, v < 6 → ((s >>> v) &&& 1) = if v ∈ mem s then 1 else 0 := by decide +kernel

/-- All pairs of a place and a member of the club there. -/
def prsP (l : List (Nat × Int)) : List (Nat × Nat) := l.flatMap fun p => (mem p.2.toNat).map fun u => (p.1, u)

theorem prsP_snoc (l : List (Nat × Int)) (p : Nat × Int) : prsP (l ++ [p]) = prsP l ++ (mem p.2.toNat).map fun u => (p.1, u) := by simp [prsP]
theorem prsP_lt (l : List (Nat × Int)) (h : ∀ p ∈ l, p.1 < 8) : ∀ x ∈ prsP l, x.1 < 8 := by
  intro x hx
  obtain ⟨p, hp, hx2⟩ := List.mem_flatMap.1 hx
  obtain ⟨u, _, rfl⟩ := List.mem_map.1 hx2
  exact h p hp

def plc {m : Nat} (pre : List { p // IsClub m p }) : List (Nat × Nat) := prsP (pre.map (·.1))
theorem plc_snoc {m : Nat} (pre : List { p // IsClub m p }) (x : { p // IsClub m p }) : plc (pre ++ [x]) = plc pre ++ (mem x.1.2.toNat).map fun u => (x.1.1, u) := by
  simp only [plc, List.map_append, List.map_cons, List.map_nil, prsP_snoc]

theorem plc_lt {m : Nat} (pre : List { p // IsClub m p }) : ∀ x ∈ plc pre, x.1 < 8 := prsP_lt _ (by
  intro p hp
  obtain ⟨y, _, rfl⟩ := List.mem_map.1 hp
  exact y.2.1)

/-- The pairs of one club so far. -/
def row1 {m : Nat} (i : Nat) (us : List (Mem m)) : List (Nat × Nat) := us.map fun u => (i, u.1)

theorem row1_snoc {m : Nat} (i : Nat) (us : List (Mem m)) (u : Mem m) : row1 i (us ++ [u]) = row1 i us ++ [(i, u.1)] := by simp [row1]
theorem row1_lt {m : Nat} (i : Nat) (hi : i < 8) (us : List (Mem m)) : ∀ x ∈ row1 i us, x.1 < 8 := by
  intro x hx
  obtain ⟨u, _, rfl⟩ := List.mem_map.1 hx
  exact hi

theorem row1_all {m : Nat} (i : Nat) (us : List (Mem m)) (l : List Nat) (h : us.map (·.1) = l) : row1 i us = l.map fun u => (i, u) := by
  rw [← h, row1, List.map_map]; rfl

/-- The dual. -/
def dualIn (m : Int) (zs : List Int) : Bool := famIn m zs && (decide (1 ≤ zs.length) && decide (zs.length ≤ 6))

def dualM (m : Int) (zs : List Int) : Int := if dualIn m zs then (zs.length : Int) else 0
def dualZ (m : Int) (zs : List Int) : List Int := if dualIn m zs then dualL m.toNat (prsP (pairs zs zs.length)) else []
theorem dualZ_len (m : Int) (zs : List Int) : (dualZ m zs).length ≤ 1048576 := by
  unfold dualZ
  split
  · rename_i h
    have := (famIn_out (show famIn m zs = true by simp only [dualIn, Bool.and_eq_true] at h; exact h.1)).2.1
    rw [dualL_length]; omega
  · simp

theorem own_nil (w : World) (B : Nat) : OwnI w B (.slice none 0 0) [] := World.ownsRow_nil w B 3 1
set_option maxRecDepth 100000 in
set_option maxHeartbeats 2000000 in
theorem implDual_no (m : Int) (a : Option Addr) (c : Nat) (zs : List Int) (w : World) (ha : Ints w w.heap.size a zs) (hx : zs.length ≤ 1048576) (hf : dualIn m zs = false) :
    Calls Tryd.prog 13 #[.agg #[.int .i64 m, .slice a zs.length c]] w (RetFB w 0 [] false) := by
  have HB0 := Lib.hid (below2 w (.cells #[.int .i64 m, .slice a zs.length c] 26) (.cells #[.int .i64 0, .slice none 0 0] 26))
  have HA := Lib.hid (ha.below HB0.out)
  cases h1 : famIn m zs
  · have HF := Lib.hid h1
    clear hf ha h1
    go_enter Tryd.func13, Tryd.ntmps13
    go_wp2_with fail
    refine (implFamilyIn_any _ _ _ zs _ (HA.out.mono (by simp; omega)) hx).mono ?_
    rintro e w1 ⟨rfl, hb⟩
    rw [HF.out]
    have b2 : w1.heap[w.heap.size + 1]? = some (.cells #[.int .i64 0, .slice none 0 0] 26 (0, 0)) := (hb.block _ (by simp)).trans (alloc2_1 w _ _)
    have d0 := blk_cell b2 0
    have d1 := blk_cell b2 1
    have f0 := blk_frozen b2 0
    have f1 := blk_frozen b2 1
    simp only [cell2_0, cell2_1] at d0 d1
    have HB := Lib.hid (HB0.out.trans (hb.mono (by simp; omega)))
    clear hb b2
    go_wp2
    refine bodyPost_ret (v := .tuple #[.agg #[.int .i64 0, .slice none 0 0], .bool false]) (by simp [results, Tryd.results13, go_sem, d0, d1]) rfl ?_
    exact ⟨none, 0, rfl, own_nil _ _, (HB.out.setCell (p := ⟨w.heap.size + 1, 0, none⟩) (by simp) _).setCell (p := ⟨w.heap.size + 1, 1, none⟩) (by simp) _⟩
  · have HF := Lib.hid h1
    obtain ⟨n, hn⟩ : ∃ n, n = zs.length := ⟨_, rfl⟩
    have hc : n = 0 ∨ 6 < n := by
      simp only [dualIn, h1, Bool.true_and, Bool.and_eq_false_iff, decide_eq_false_iff_not] at hf
      omega
    have HN := Lib.hid hn
    rw [← hn] at hx
    clear hf ha h1 hn
    rcases hc with h2 | h2
    · go_enter Tryd.func13, Tryd.ntmps13
      go_wp2_with fail
      refine (implFamilyIn_any _ _ _ zs _ (HA.out.mono (by simp; omega)) (by rw [← HN.out]; exact hx)).mono ?_
      rintro e w1 ⟨rfl, hb⟩
      rw [HF.out]
      have b0 : w1.heap[w.heap.size]? = some (.cells #[.int .i64 m, .slice a zs.length c] 26 (0, 0)) := (hb.block _ (by simp; omega)).trans (alloc2_0 w _ _)
      have b2 : w1.heap[w.heap.size + 1]? = some (.cells #[.int .i64 0, .slice none 0 0] 26 (0, 0)) := (hb.block _ (by simp)).trans (alloc2_1 w _ _)
      rw [← HN.out] at b0
      have x1 := blk_cell b0 1
      have d0 := blk_cell b2 0
      have d1 := blk_cell b2 1
      have f0 := blk_frozen b2 0
      have f1 := blk_frozen b2 1
      simp only [cell2_0, cell2_1] at d0 d1 x1
      have HB := Lib.hid (HB0.out.trans (hb.mono (by simp; omega)))
      clear hb b2 b0
      go_wp2
      refine bodyPost_ret (v := .tuple #[.agg #[.int .i64 0, .slice none 0 0], .bool false]) (by simp [results, Tryd.results13, go_sem, d0, d1]) rfl ?_
      exact ⟨none, 0, rfl, own_nil _ _, (HB.out.setCell (p := ⟨w.heap.size + 1, 0, none⟩) (by simp) _).setCell (p := ⟨w.heap.size + 1, 1, none⟩) (by simp) _⟩
    · go_enter Tryd.func13, Tryd.ntmps13
      go_wp2_with fail
      refine (implFamilyIn_any _ _ _ zs _ (HA.out.mono (by simp; omega)) (by rw [← HN.out]; exact hx)).mono ?_
      rintro e w1 ⟨rfl, hb⟩
      rw [HF.out]
      have b0 : w1.heap[w.heap.size]? = some (.cells #[.int .i64 m, .slice a zs.length c] 26 (0, 0)) := (hb.block _ (by simp; omega)).trans (alloc2_0 w _ _)
      have b2 : w1.heap[w.heap.size + 1]? = some (.cells #[.int .i64 0, .slice none 0 0] 26 (0, 0)) := (hb.block _ (by simp)).trans (alloc2_1 w _ _)
      rw [← HN.out] at b0
      have x1 := blk_cell b0 1
      have d0 := blk_cell b2 0
      have d1 := blk_cell b2 1
      have f0 := blk_frozen b2 0
      have f1 := blk_frozen b2 1
      simp only [cell2_0, cell2_1] at d0 d1 x1
      have HB := Lib.hid (HB0.out.trans (hb.mono (by simp; omega)))
      clear hb b2 b0
      go_wp2
      refine bodyPost_ret (v := .tuple #[.agg #[.int .i64 0, .slice none 0 0], .bool false]) (by simp [results, Tryd.results13, go_sem, d0, d1]) rfl ?_
      exact ⟨none, 0, rfl, own_nil _ _, (HB.out.setCell (p := ⟨w.heap.size + 1, 0, none⟩) (by simp) _).setCell (p := ⟨w.heap.size + 1, 1, none⟩) (by simp) _⟩

end Go.Proofs.YtgjcjllhkkkioaaDoor
