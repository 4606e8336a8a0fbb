/- It is proved how lists of the call's own and boxed families read; conditions: the bounds in each statement. -/
import Derived.Test.YtacglafoahmcnaaDoorRows
import Derived.WalkKit
import Derived.WalkSpells
import Derived.ProofKit
import Derived.OpenShut
import Derived.ShutString
import Derived.ChangeOld
import Derived.Below
import Derived.Deep.RegionHeld3
import Derived.Deep.QuietTactic
import Derived.BigQuiet
import Derived.Lib.Hide
import Derived.Lib.SmallJoins
import Derived.Outline
import Derived.Laws.MakeOwn
import Derived.Laws.OwnMore
import Derived.IntWalk
import Derived.Test.YtacglafoahmcnaaDoorRaaa
import Derived.Test.YtacglafoahmcnaaDoorRaac
import Derived.Test.YtacglafoahmcnaaDoorRaab
import Derived.Maps.AppendAt
import Derived.Deep.AppendLies
import Derived.OwnWalk
import Derived.RangeFuncNested
import Derived.RangeFuncBound
import Derived.RangeFuncCalls
import Derived.RangeFuncLeaves
import Derived.RangeFuncBox
import Derived.Shelf.Abstract
import Derived.Shelf.RegionOpen
import Derived.OwnWalkIn
import Derived.TacticsInMore
import Derived.LoopNIn
import Derived.LoopIn
namespace Go.Proofs.YtacglafoahmcnaaDoor
open Go.RowKit

theorem own_ints {w : World} {B : Nat} {a : Option Addr} {n cap : Nat} {zs : List Int} (h : OwnI w B (.slice a n cap) zs) : Ints w w.heap.size a zs := by
  rcases h.2 with ⟨h2, hn⟩ | ⟨g, c, cur, e, hb, hg, r⟩
  · exact .inl (List.eq_nil_of_length_eq_zero hn)
  · injection e with e1 e2 e3
    subst e1
    refine .inr ⟨g, 0, rfl, (Array.getElem?_eq_some_iff.1 hg).1, fun j hj => ?_⟩
    have h' : w.ownsRow B 3 1 (.slice (some ⟨g, 0, none⟩) zs.length c) zs.length (zs.map (Value.int .i64)) := ⟨h.1, .inr ⟨g, c, cur, rfl, hb, hg, r⟩⟩
    have := h'.cellAt j (by omega)
    simpa [hj] using this

theorem own_block {w : World} {B : Nat} {a : Option Addr} {n cap : Nat} {zs : List Int} (h : OwnI w B (.slice a n cap) zs) : ∀ x, a = some x → B ≤ x.block ∧ x.block < w.heap.size := by
  rintro x rfl
  exact World.ownsRow.lt h x.block rfl

theorem own_below {w w' : World} {B B' : Nat} {v : Value} {zs : List Int} (h : OwnI w B v zs) (hb : Below B' w w') (hB : w.heap.size ≤ B') : OwnI w' B v zs := by
  refine ⟨h.1, ?_⟩
  rcases h.2 with h2 | ⟨g, c, cur, e, hb', hg, r⟩
  · exact .inl h2
  · exact .inr ⟨g, c, cur, e, hb', (hb.block g (by have := (Array.getElem?_eq_some_iff.1 hg).1; omega)).trans hg, r⟩

theorem big_len {zs : List Int} (h : 1048576 < zs.length) : (1048576 : Int) < (zs.length : Int) := by omega
/-- The law's argument, boxed in the block that the law began with: it and its list read as they did. -/
structure AF (w : World) (m : Int) (a : Option Addr) (cap : Nat) (zs : List Int) (W : World) : Prop where
  x0 : W.cell? ⟨w.heap.size, 0, none⟩ = some (.int .i64 m)
  x1 : W.cell? ⟨w.heap.size, 1, none⟩ = some (.slice a zs.length cap)
  ints : Ints W w.heap.size a zs
  below : Below w.heap.size w W
  size : w.heap.size + 1 ≤ W.heap.size

theorem AF.step {w : World} {m : Int} {a : Option Addr} {cap : Nat} {zs : List Int} {W W' : World} (h : AF w m a cap zs W) (hb : Below W.heap.size W W') : AF w m a cap zs W' :=
  ⟨(hb.cell (p := ⟨w.heap.size, 0, none⟩) h.size).trans h.x0, (hb.cell (p := ⟨w.heap.size, 1, none⟩) h.size).trans h.x1, h.ints.below (hb.mono (by have := h.size; omega)),
    h.below.trans (hb.mono (by have := h.size; omega)), by have := h.size; have := hb.size; omega⟩

theorem AF.start (w : World) (m : Int) (a : Option Addr) (cap : Nat) (zs : List Int) (ha : Ints w w.heap.size a zs) : AF w m a cap zs (w.alloc (.cells #[.int .i64 m, .slice a zs.length cap] 41)) :=
  ⟨blk_cell (alloc_new w _) 0, blk_cell (alloc_new w _) 1, ha.below (below1 w _), below1 w _, by simp⟩

theorem AF.old {w : World} {m : Int} {a : Option Addr} {cap : Nat} {zs : List Int} {W : World} (h : AF w m a cap zs W) : Ints W W.heap.size a zs := h.ints.mono (by have := h.size; omega)
theorem AF.drew {w : World} {m : Int} {a : Option Addr} {cap : Nat} {zs : List Int} {W : World} (h : AF w m a cap zs W) : AF w m a cap zs W.drew := ⟨h.x0, h.x1, h.ints, h.below.drew, h.size⟩
/-- A family that the call holds in a box of its own: the box and its list read as they did. -/
structure XF (X : Nat) (m : Int) (a : Option Addr) (cap : Nat) (zs : List Int) (W : World) : Prop where
  x0 : W.cell? ⟨X, 0, none⟩ = some (.int .i64 m)
  x1 : W.cell? ⟨X, 1, none⟩ = some (.slice a zs.length cap)
  ints : Ints W W.heap.size a zs
  size : X < W.heap.size

theorem XF.step {X : Nat} {m : Int} {a : Option Addr} {cap : Nat} {zs : List Int} {W W' : World} (h : XF X m a cap zs W) (hb : Below W.heap.size W W') : XF X m a cap zs W' :=
  ⟨(hb.cell (p := ⟨X, 0, none⟩) h.size).trans h.x0, (hb.cell (p := ⟨X, 1, none⟩) h.size).trans h.x1, (h.ints.below hb).mono hb.size, by have := h.size; have := hb.size; omega⟩

theorem XF.start (w : World) (m : Int) (a : Option Addr) (cap : Nat) (zs : List Int) (ha : Ints w w.heap.size a zs) : XF w.heap.size m a cap zs (w.alloc (.cells #[.int .i64 m, .slice a zs.length cap] 25)) :=
  ⟨blk_cell (alloc_new w _) 0, blk_cell (alloc_new w _) 1, (ha.below (below1 w _)).mono (by simp), by simp⟩

theorem XF.drew {X : Nat} {m : Int} {a : Option Addr} {cap : Nat} {zs : List Int} {W : World} (h : XF X m a cap zs W) : XF X m a cap zs W.drew := ⟨h.x0, h.x1, h.ints, h.size⟩
theorem bool_neq_self (b : Bool) : (b != b) = false := by cases b <;> rfl
end Go.Proofs.YtacglafoahmcnaaDoor

/- It is proved how boxed families keep what they hold while the laws go on; conditions: those of each statement. -/
namespace Go.Proofs.YtacglafoahmcnaaDoor
open Go.RowKit

/-- What a function of a family and a bool returns: both, in new memory; nothing that lay has turned. -/
def RetFB (w : World) (m : Int) (zs : List Int) (ok : Bool) (e : Ending) (w' : World) : Prop :=
  ∃ a cap, e = .returned (.tuple #[.agg #[.int .i64 m, .slice a zs.length cap], .bool ok]) ∧ OwnI w' w.heap.size (.slice a zs.length cap) zs ∧ Below w.heap.size w w'

/-- A family in a box of the call's own: block X; its list lies in a block of lo, .., hi - 1, below X. -/
structure XB (X lo hi : Nat) (m : Int) (a : Option Addr) (n cap : Nat) (zs : List Int) (W : World) : Prop where
  x0 : W.cell? ⟨X, 0, none⟩ = some (.int .i64 m)
  x1 : W.cell? ⟨X, 1, none⟩ = some (.slice a n cap)
  own : OwnN W lo a n cap zs
  rng : ∀ g, (Value.slice a n cap).ownBlock = some g → lo ≤ g ∧ g < hi
  hiX : hi ≤ X
  size : X < W.heap.size

theorem XB.len {X lo hi : Nat} {m : Int} {a : Option Addr} {n cap : Nat} {zs : List Int} {W : World} (h : XB X lo hi m a n cap zs W) : zs.length = n := by
  have := h.own.1; simpa using this

theorem XB.ints {X lo hi : Nat} {m : Int} {a : Option Addr} {n cap : Nat} {zs : List Int} {W : World} (h : XB X lo hi m a n cap zs W) : Ints W W.heap.size a zs := by
  have h1 := h.own
  have hl := h.len
  subst hl
  exact own_ints (n := zs.length) (cap := cap) (B := lo) h1

/-- What keeps all blocks but row's keeps the box, if row's block is none of it. -/
theorem XB.kept {X lo hi : Nat} {m : Int} {a : Option Addr} {n cap : Nat} {zs : List Int} {W W' : World} {row : Option Nat} (h : XB X lo hi m a n cap zs W) (hg : W.grownBy W' row)
    (hr : ∀ g, row = some g → (g < lo ∨ hi ≤ g) ∧ g ≠ X) : XB X lo hi m a n cap zs W' := by
  have hX : ∀ o, W'.cell? ⟨X, o, none⟩ = W.cell? ⟨X, o, none⟩ := fun o =>
    World.cell?_of_block (a := ⟨X, o, none⟩) (hg.block X h.size (fun e => (hr X e.symm).2 rfl))
  refine ⟨(hX 0).trans h.x0, (hX 1).trans h.x1, World.ownsRow.kept h.own hg ?_, h.rng, h.hiX, Nat.lt_of_lt_of_le h.size hg.size⟩
  cases ho : (Value.slice a n cap).ownBlock with
  | none => exact .inl rfl
  | some g =>
    right
    intro e
    have h1 := h.rng g ho
    have h2 := hr g e.symm
    omega

theorem XB.step {X lo hi : Nat} {m : Int} {a : Option Addr} {n cap : Nat} {zs : List Int} {W W' : World} (h : XB X lo hi m a n cap zs W) (hb : Below W.heap.size W W') : XB X lo hi m a n cap zs W' :=
  h.kept (only_of_below hb none) (fun g e => by cases e)

theorem XB.drew {X lo hi : Nat} {m : Int} {a : Option Addr} {n cap : Nat} {zs : List Int} {W : World} (h : XB X lo hi m a n cap zs W) : XB X lo hi m a n cap zs W.drew :=
  ⟨h.x0, h.x1, h.own, h.rng, h.hiX, h.size⟩

/-- Its own list marked. -/
theorem XB.marked {X lo hi : Nat} {m : Int} {a : Option Addr} {n cap : Nat} {zs : List Int} {W W' : World} (h : XB X lo hi m a n cap zs W)
    (ho : OwnI W' lo (.slice a n cap) (marks n)) (hg : W.grownBy W' (Value.slice a n cap).ownBlock) : XB X lo hi m a n cap (marks n) W' := by
  have hX : ∀ o, W'.cell? ⟨X, o, none⟩ = W.cell? ⟨X, o, none⟩ := fun o =>
    World.cell?_of_block (a := ⟨X, o, none⟩) (hg.block X h.size (fun e => by have := h.rng X e.symm; have := h.hiX; omega))
  refine ⟨(hX 0).trans h.x0, (hX 1).trans h.x1, ?_, h.rng, h.hiX, Nat.lt_of_lt_of_le h.size hg.size⟩
  have := ho
  unfold OwnI at this
  rwa [marks_length] at this

/-- It begins: a list of the call's own, boxed. -/
theorem XB.start {w : World} {lo : Nat} {m : Int} {a : Option Addr} {cap : Nat} {zs : List Int} (ho : OwnI w lo (.slice a zs.length cap) zs) :
    XB w.heap.size lo w.heap.size m a zs.length cap zs (w.alloc (.cells #[.int .i64 m, .slice a zs.length cap] 25)) :=
  ⟨blk_cell (alloc_new w _) 0, blk_cell (alloc_new w _) 1, World.ownsRow.alloc ho _, fun g e => World.ownsRow.lt ho g e, Nat.le_refl _, by simp⟩

theorem XB.ownI {X lo hi : Nat} {m : Int} {a : Option Addr} {cap : Nat} {zs : List Int} {W : World} (h : XB X lo hi m a zs.length cap zs W) : OwnI W lo (.slice a zs.length cap) zs := h.own
theorem AF.kept {w : World} {m : Int} {a : Option Addr} {cap : Nat} {zs : List Int} {W W' : World} {row : Option Nat} (h : AF w m a cap zs W) (hg : W.grownBy W' row) (hr : ∀ g, row = some g → w.heap.size + 1 ≤ g) : AF w m a cap zs W' := by
  have hb : Below (w.heap.size + 1) W W' := (Below.refl _ _).grown hg h.size hr
  exact ⟨(hb.cell (p := ⟨w.heap.size, 0, none⟩) (by simp)).trans h.x0, (hb.cell (p := ⟨w.heap.size, 1, none⟩) (by simp)).trans h.x1, h.ints.below (hb.mono (by omega)),
    h.below.trans (hb.mono (by omega)), by have := h.size; have := hg.size; omega⟩

end Go.Proofs.YtacglafoahmcnaaDoor

/- It is proved what l1None, l1With and the model's FamilyMeet return; conditions: those of each statement. -/
namespace Go.Proofs.YtacglafoahmcnaaDoor
open Go.RowKit

theorem alloc2_0 (w : World) (o p : Obj) : ((w.alloc o).alloc p).heap[w.heap.size]? = some o := by rw [alloc_old _ _ _ (by simp), alloc_new]
theorem alloc2_1 (w : World) (o p : Obj) : ((w.alloc o).alloc p).heap[w.heap.size + 1]? = some p := by
  rw [show w.heap.size + 1 = (w.alloc o).heap.size from by simp, alloc_new]

/-- A new empty row. -/
theorem own_empty {w : World} {B g : Nat} (h : w.heap[g]? = some (.cells #[] 3 (0, 0))) (hB : B ≤ g) : OwnI w B (.slice (some ⟨g, 0, none⟩) 0 0) [] :=
  ⟨by simp, .inr ⟨g, 0, #[], rfl, hB, h, Nat.le_refl _, by simp [maxLen], by simp, by simp⟩⟩

set_option maxRecDepth 100000 in
set_option maxHeartbeats 400000 in
theorem l1None_any (w : World) : Calls Tryd.prog 55 #[] w (RetFB w 0 [] false) := by
  go_enter Tryd.func55, Tryd.ntmps55
  go_wp2
  refine bodyPost_ret (v := .tuple #[.agg #[.int .i64 0, .slice (some ⟨w.heap.size + 1, 0, none⟩) 0 0], .bool false]) (by simp [results, Tryd.results55, go_sem]) rfl ?_
  exact ⟨_, _, rfl, own_empty (alloc2_1 w _ _) (by omega), below2 _ _ _⟩

set_option maxRecDepth 100000 in
set_option maxHeartbeats 400000 in
theorem l1With_any (m : Int) (a b : Option Addr) (n c k d : Nat) (w : World) :
    Calls Tryd.prog 139 #[.agg #[.int .i64 m, .slice a n c], .slice b k d] w fun e w' => e = .returned (.agg #[.int .i64 m, .slice b k d]) ∧ Below w.heap.size w w' := by
  go_enter Tryd.func139, Tryd.ntmps139
  go_wp2
  refine bodyPost_ret (v := .agg #[.int .i64 m, .slice b k d]) (by simp [results, Tryd.results139, go_sem]) rfl ?_
  exact ⟨rfl, below2 _ _ _⟩

theorem map_at (f : Int → Int) (zs : List Int) (k : Nat) (h : k < zs.length) : (zs.take (k + 1)).map f = (zs.take k).map f ++ [f (zs[k]?.getD 0)] := by
  rw [List.take_succ_eq_append_getElem h, List.map_append]; simp [h]

/-- What a function that maps the clubs comes to. -/
def famMap (c : Bool) (_m : Int) (f : Int → Int) (zs : List Int) : List Int := if c then zs.map f else []

def famM (c : Bool) (m : Int) : Int := if c then m else 0
theorem OwnI.form {w : World} {B : Nat} {v : Value} {zs : List Int} (h : OwnI w B v zs) (hn : 0 < zs.length) : ∃ g cap, v = .slice (some ⟨g, 0, none⟩) zs.length cap ∧ B ≤ g ∧ g < w.heap.size := World.ownsRow.form h hn
end Go.Proofs.YtacglafoahmcnaaDoor

/- It is proved what the iterator over a family's clubs yields; conditions: those of each statement. -/
namespace Go.Proofs.YtacglafoahmcnaaDoor
open Go.RowKit Go.Shelf

attribute [local go_sem] Oper.semAt_some

/-- The first k places with the clubs there. -/
def pairs (zs : List Int) (k : Nat) : List (Nat × Int) := (List.range k).map fun j => (j, zs[j]?.getD 0)

theorem pairs_succ (zs : List Int) (k : Nat) : pairs zs (k + 1) = pairs zs k ++ [(k, zs[k]?.getD 0)] := by simp [pairs, List.range_succ]
theorem pairs_succ' (zs : List Int) (k : Nat) (h : k < zs.length) : pairs zs (k + 1) = pairs zs k ++ [(k, zs[k])] := by rw [pairs_succ]; simp [h]
theorem pairs_length (zs : List Int) (k : Nat) : (pairs zs k).length = k := by simp [pairs]
theorem pairs_snd (zs : List Int) (k : Nat) (h : k ≤ zs.length) : (pairs zs k).map (·.2) = zs.take k := by
  apply List.ext_getElem
  · simp [pairs, h]
  · intro i h1 h2
    have : i < zs.length := by simp [pairs] at h1; omega
    simp [pairs, this]

theorem pairs_all (zs : List Int) : (pairs zs zs.length).map (·.2) = zs := by rw [pairs_snd zs _ (Nat.le_refl _), List.take_length]
set_option maxRecDepth 100000 in
set_option maxHeartbeats 2000000 in
theorem clubs1_in (n : Nat) (hn : 1 ≤ n) (l Bs n₀ : Nat) (a : Option Addr) (c : Nat) (zs : List Int) (hlen : zs.length ≤ 1048576) (J Jx : List (Nat × Int) → World → Prop)
    (hY : ∀ pre x W, J pre W → pre.length < zs.length → YieldAt Fence.wide (n - 1) Tryd.prog l #[.int .i64 (x.1 : Int), .int .i64 x.2] W fun e W' =>
      (e = .returned (.bool true) ∧ J (pre ++ [x]) W' ∧ Below n₀ W W') ∨ (e = .returned (.bool false) ∧ Jx (pre ++ [x]) W'))
    (W : World) (hBs : W.cell? ⟨Bs, 1, none⟩ = some (.slice a zs.length c)) (hI : Ints W n₀ a zs) (h0 : J [] W) :
    CallsIn Fence.wide n Tryd.prog 88 #[.func (.yield l) #[] #[], .pointer (some ⟨Bs, 0, none⟩)] W fun e W' => (∃ v, e = .returned v) ∧
      ((∃ ys, ys = pairs zs zs.length ∧ J ys W') ∨ (∃ pre, (∃ k, k ≤ zs.length ∧ pre = pairs zs k) ∧ Jx pre W')) := by
  refine callsIn_of_wp Tryd.func88 rfl trivial ?_ rfl
  simp only [Tryd.ntmps88, List.size_toArray, List.length_cons, List.length_nil, Nat.reduceAdd, Nat.reduceSub, Array.replicate_succ, Array.replicate_zero, List.push_toArray, List.append_toArray, List.nil_append, List.cons_append]
  gi_wp2
  gi_loopw [8] (fun i wr => ∃ k : Nat, k ≤ zs.length ∧ i = .int .i64 k ∧ J (pairs zs k) wr ∧ Below n₀ W wr)
    (fun i _ => zs.length - (intOf i).toNat)
  case atStart => exact ⟨0, Nat.zero_le _, rfl, h0, Below.refl _ _⟩
  case round =>
    obtain ⟨k, hk, rfl, hJs, hnx⟩ := hrel
    by_cases hlt : k < zs.length
    · obtain ⟨b, off, rfl, hb, hc⟩ := hI.at_ hlt
      have hcx' : wr.cell? ⟨b, off + k, none⟩ = some (.int .i64 (zs[k]?.getD 0)) := (hnx.cell (p := ⟨b, off + k, none⟩) hb).trans hc
      obtain ⟨fn, tmps, assign, body, hy, hR⟩ := hY _ (k, zs[k]) wr hJs (by rw [pairs_length]; exact hlt)
      dsimp only at hy
      gi_wp2
      refine hR.mono ?_
      rintro e W3 (⟨rfl, hJ3, hk3⟩ | ⟨rfl, hJx3⟩)
      · gi_wp2
        go_roundw
        case rel => exact ⟨k + 1, by omega, by simp, by rw [pairs_succ' zs k hlt]; exact hJ3, hnx.trans hk3⟩
        case measure => simp [intOf]; omega
      · gi_wp2
        refine bodyPost_ret (results_none rfl _ _ _) rfl ?_
        exact ⟨⟨_, rfl⟩, .inr ⟨_, ⟨k + 1, by omega, (pairs_succ' zs k hlt).symm⟩, hJx3⟩⟩
    · obtain rfl : k = zs.length := by omega
      gi_wp2
      go_end0
      exact ⟨⟨_, rfl⟩, .inl ⟨_, rfl, hJs⟩⟩

/-- f.clubs(): the family is boxed; the function value holds the box. -/
theorem clubs_any (m : Int) (a : Option Addr) (n c : Nat) (w : World) :
    Calls Tryd.prog 48 #[.agg #[.int .i64 m, .slice a n c]] w fun e w' => e = .returned (.func (.func 88) #[] #[.pointer (some ⟨w.heap.size, 0, none⟩)]) ∧ w' = w.alloc (.cells #[.int .i64 m, .slice a n c] 25) := by
  have hmf : ∀ (fn : Fn) (first cap : Array Value) (w : World), (Instr.makeFunc fn first cap).run Tryd.prog w = .ok (.func fn first cap) w := fun _ _ _ _ => rfl
  go_enter Tryd.func48, Tryd.ntmps48
  go_wp2
  go_ret
  exact ⟨rfl, rfl⟩

theorem clubs_stops (n : Nat) (hn : 1 ≤ n) (Bs n₀ : Nat) (a : Option Addr) (c : Nat) (zs : List Int) (hlen : zs.length ≤ 1048576) (w : World) (hBs : Bs < w.heap.size) (hn₀ : n₀ ≤ w.heap.size)
    (hc : w.cell? ⟨Bs, 1, none⟩ = some (.slice a zs.length c)) (hI : Ints w n₀ a zs) :
    SeqStopsK Fence.wide n Tryd.prog 88 #[.pointer (some ⟨Bs, 0, none⟩)] (fun x : Nat × Int => #[Value.int .i64 (x.1 : Int), Value.int .i64 x.2]) (Below n₀) (fun ys => ys = pairs zs zs.length)
      (fun pre => ∃ k, k ≤ zs.length ∧ pre = pairs zs k) zs.length w := fun l J Jx W hW _ _ hY h0 =>
  clubs1_in n hn l Bs n₀ a c zs hlen J Jx hY W ((hW.cell (p := ⟨Bs, 1, none⟩) hBs).trans hc) (hI.below (hW.mono hn₀)) h0

end Go.Proofs.YtacglafoahmcnaaDoor
