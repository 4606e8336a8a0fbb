/- It is proved how all names of members are listed in order, by choosing the first name and by going on from the front; conditions: those of each statement. -/
import Derived.RowKit
import Derived.Test.YtgpgocijacgkhaaDoorRows
import Derived.WalkKit
import Derived.WalkSpells
import Derived.ProofKit
import Derived.OpenShut
import Derived.ShutString
import Derived.ChangeOld
import Derived.Below
import Derived.Deep.RegionHeld3
import Derived.Deep.QuietTactic
import Derived.BigQuiet
import Derived.Lib.Hide
import Derived.Lib.SmallJoins
import Derived.Outline
import Derived.Laws.MakeOwn
import Derived.Laws.OwnMore
import Derived.IntWalk
import Derived.RangeFuncNested
import Derived.RangeFuncBound
import Derived.RangeFuncCalls
import Derived.RangeFuncLeaves
import Derived.RangeFuncBox
import Derived.Shelf.Abstract
import Derived.Shelf.RegionOpen
import Derived.OwnWalkIn
import Derived.TacticsInMore
import Derived.LoopNIn
import Derived.LoopIn
import Derived.Maps.AppendAt
import Derived.Deep.AppendLies
import Derived.OwnWalk
import Derived.StillTail
import Derived.StillTactics
import Derived.OrdersIn
import Derived.TacticsIn
import Derived.Shelf.Spec.TrailingZeros
import Derived.Test.YtgpgocijacgkhaaDoorRaaa
import Derived.Test.YtgpgocijacgkhaaDoorRaab
import Derived.Test.YtgpgocijacgkhaaDoorRaal
import Derived.Test.YtgpgocijacgkhaaDoorRaac
import Derived.Test.YtgpgocijacgkhaaDoorTb
import Derived.Test.YtgpgocijacgkhaaDoorRaae
import Derived.Laws.CopyRow
import Derived.Lib.SlBuf
import Derived.StillTailTactics
import Derived.Lib.AppendZeros
import Derived.Shelf.Sort.Plain
import Derived.Shelf.Slices.In.SortNone
import Derived.Shelf.Slices.CompactI
import Derived.Ground.Names2Prog
import Derived.Lib.OwnBridge
import Derived.Lib.SlicesCompact
namespace Go.Proofs.YtgpgocijacgkhaaDoor
open Go.RowKit

/-- All orders of these members, as lists are compared. -/
def permsL : Nat → List Nat → List (List Nat)
  | 0, _ => [[]]
  | k + 1, us => us.flatMap fun v => (permsL k (us.erase v)).map (v :: ·)

/-- Each list, with each member below n that it has not, behind it. -/
def nextL (n : Nat) (L : List (List Nat)) : List (List Nat) := L.flatMap fun l => ((List.range n).filter fun v => !l.contains v).map fun v => l ++ [v]

def fromL (n : Nat) : Nat → List (List Nat) → List (List Nat)
  | 0, L => L
  | k + 1, L => fromL n k (nextL n L)

def lvlL (n : Nat) : Nat → List (List Nat)
  | 0 => [[]]
  | k + 1 => nextL n (lvlL n k)

theorem fromL_succ (n : Nat) : ∀ (k : Nat) (L : List (List Nat)), fromL n (k + 1) L = nextL n (fromL n k L)
  | 0, _ => rfl
  | k + 1, L => by rw [fromL, fromL_succ n k]; rfl

theorem lvlL_from (n : Nat) : ∀ k, lvlL n k = fromL n k [[]]
  | 0 => rfl
  | k + 1 => by rw [fromL_succ, lvlL, lvlL_from n k]

theorem nextL_flat {α : Type} (n : Nat) (xs : List α) (f : α → List (List Nat)) : nextL n (xs.flatMap f) = xs.flatMap fun x => nextL n (f x) := by
  unfold nextL; rw [List.flatMap_assoc]

theorem fromL_flat {α : Type} (n : Nat) : ∀ (k : Nat) (xs : List α) (f : α → List (List Nat)), fromL n k (xs.flatMap f) = xs.flatMap fun x => fromL n k (f x)
  | 0, _, _ => rfl
  | k + 1, xs, f => by rw [fromL, nextL_flat, fromL_flat n k]; rfl

theorem erase_filter (n : Nat) (l : List Nat) (v : Nat) : ((List.range n).filter fun u => !l.contains u).erase v = (List.range n).filter fun u => !(l ++ [v]).contains u := by
  rw [List.Nodup.erase_eq_filter (List.Pairwise.filter _ List.nodup_range), List.filter_filter]
  apply List.filter_congr
  intro x _
  rw [Bool.eq_iff_iff]
  simp [and_comm]

theorem fromL_perms (n : Nat) : ∀ (k : Nat) (l : List Nat), fromL n k [l] = (permsL k ((List.range n).filter fun u => !l.contains u)).map (l ++ ·)
  | 0, l => by simp [fromL, permsL]
  | k + 1, l => by
    rw [fromL, show nextL n [l] = ((List.range n).filter fun u => !l.contains u).flatMap fun v => [l ++ [v]] from by simp [nextL, List.map_eq_flatMap], fromL_flat, permsL, List.map_flatMap]
    congr 1
    funext v
    rw [fromL_perms n k, erase_filter, List.map_map]
    apply List.map_congr_left
    intro x _
    simp

theorem lvlL_perms (n k : Nat) : lvlL n k = permsL k (List.range n) := by
  rw [lvlL_from, fromL_perms, show ((List.range n).filter fun u => !([] : List Nat).contains u) = List.range n from by simp]
  simp

theorem permsL_len : ∀ (k : Nat) (us : List Nat) (p : List Nat), p ∈ permsL k us → p.length = k
  | 0, us, p, h => by simp [permsL] at h; simp [h]
  | k + 1, us, p, h => by
    simp only [permsL, List.mem_flatMap, List.mem_map] at h
    obtain ⟨v, _, q, hq, rfl⟩ := h
    simp [permsL_len k _ q hq]

theorem permsL_perm : ∀ (k : Nat) (us : List Nat) (p : List Nat), us.length = k → p ∈ permsL k us → p.Perm us
  | 0, us, p, hl, h => by simp [permsL] at h; simp [h, List.eq_nil_of_length_eq_zero hl]
  | k + 1, us, p, hl, h => by
    simp only [permsL, List.mem_flatMap, List.mem_map] at h
    obtain ⟨v, hv, q, hq, rfl⟩ := h
    have := permsL_perm k _ q (by rw [List.length_erase_of_mem hv]; omega) hq
    exact (this.cons v).trans (List.perm_cons_erase hv).symm

theorem flat_len {α β : Type} (f : α → List β) (c : Nat) : ∀ xs : List α, (∀ x ∈ xs, (f x).length ≤ c) → (xs.flatMap f).length ≤ xs.length * c
  | [], _ => by simp
  | x :: xs, h => by
    rw [List.flatMap_cons, List.length_append, List.length_cons, Nat.succ_mul]
    have h1 := h x (by simp)
    have h2 := flat_len f c xs (fun y hy => h y (by simp [hy]))
    omega

theorem lvlL_len (n : Nat) : ∀ k, (lvlL n k).length ≤ n ^ k
  | 0 => by simp [lvlL]
  | k + 1 => by
    rw [lvlL, nextL, Nat.pow_succ]
    refine Nat.le_trans (flat_len _ n _ (fun l _ => ?_)) (Nat.mul_le_mul_right _ (lvlL_len n k))
    rw [List.length_map]
    exact Nat.le_trans (List.length_filter_le _ _) (by simp)

theorem lvlL_small {n : Nat} (hn : n ≤ 6) {k : Nat} (hk : k ≤ n) : (lvlL n k).length ≤ 46656 :=
  Nat.le_trans (lvlL_len n k) (Nat.le_trans (Nat.pow_le_pow_left hn k) (Nat.le_trans (Nat.pow_le_pow_right (by decide) (by omega)) (by decide : 6 ^ 6 ≤ 46656)))

theorem lvlL_in {n k : Nat} {p : List Nat} (h : p ∈ lvlL n k) : p.length = k := by rw [lvlL_perms] at h; exact permsL_len _ _ _ h
theorem lvlL_lt {n : Nat} : ∀ {k : Nat} {p : List Nat}, p ∈ lvlL n k → ∀ v ∈ p, v < n
  | 0, p, h => by simp [lvlL] at h; simp [h]
  | k + 1, p, h => by
    simp only [lvlL, nextL, List.mem_flatMap, List.mem_map, List.mem_filter, List.mem_range] at h
    obtain ⟨l, hl, v, ⟨hv, _⟩, rfl⟩ := h
    intro u hu
    rcases List.mem_append.1 hu with h1 | h1
    · exact lvlL_lt hl u h1
    · simp at h1; omega

end Go.Proofs.YtgpgocijacgkhaaDoor

/- It is proved what named and its closure return; conditions: those of each statement. -/
namespace Go.Proofs.YtgpgocijacgkhaaDoor
open Go.RowKit Go.Shelf

attribute [local go_sem] Oper.semAt_some

/-- Members called by names, as a set. -/
def nm (ps : List Int) (us : List Nat) : Nat := us.foldl (fun t v => t ||| 2 ^ (ps[v]?.getD 0).toNat) 0

theorem nm_snoc (ps : List Int) (us : List Nat) (u : Nat) : nm ps (us ++ [u]) = nm ps us ||| 2 ^ (ps[u]?.getD 0).toNat := by simp [nm]
theorem nm_lt (ps : List Int) (us : List Nat) (h : ∀ v ∈ us, (ps[v]?.getD 0).toNat < 6) : nm ps us < 64 := by
  have : ∀ t, t < 64 → us.foldl (fun t v => t ||| 2 ^ (ps[v]?.getD 0).toNat) t < 64 := by
    induction us with
    | nil => intro t ht; exact ht
    | cons x us ih =>
      intro t ht
      rw [List.foldl_cons]
      exact ih (fun y hy => h y (by simp [hy])) _ (Nat.or_lt_two_pow (n := 6) ht (Nat.pow_lt_pow_right (by decide) (h x (by simp))))
  exact this 0 (by decide)

/-- A set called by names. -/
def called (ps : List Int) (s : Nat) : Nat := nm ps (mem s)

/-- Names that may be called: one for each member, below six. -/
structure Okp (m : Nat) (ps : List Int) : Prop where
  len : ps.length = m
  rng : ∀ v, v < m → 0 ≤ ps[v]?.getD 0 ∧ ps[v]?.getD 0 < 6

set_option maxRecDepth 100000 in
set_option maxHeartbeats 4000000 in
theorem named_any (m s : Nat) (hm : m ≤ 6) (hs : s < 2 ^ m) (a : Option Addr) (c : Nat) (ps : List Int) (hp : Okp m ps) (w : World) (ha : Ints w w.heap.size a ps) (hT : Tab w) :
    Calls Tryd.prog 55 #[.int .i64 (s : Int), .slice a ps.length c] w fun e w' => e = .returned (.int .i64 ((called ps s : Nat) : Int)) ∧ Below w.heap.size w w' := by
  have HA := Lib.hid ha
  have HT := Lib.hid hT
  have HP := Lib.hid hp
  obtain ⟨n, hn⟩ : ∃ n, n = ps.length := ⟨_, rfl⟩
  have hnm : n = m := by rw [hn]; exact hp.len
  have HN := Lib.hid hn
  rw [← hn]
  clear ha hT hn hp
  refine (callsIn_wide (n := 6)).1 ?_
  refine callsIn_of_wp_marks Tryd.func55 rfl trivial ?_ rfl
  simp only [Tryd.ntmps55, List.size_toArray, List.length_cons, List.length_nil, Nat.reduceAdd, Nat.reduceSub, Array.replicate_succ, Array.replicate_zero, List.push_toArray, List.append_toArray, List.nil_append, List.cons_append]
  gi_wp2_with (refine ⟨trivial, ?_⟩; gi_at_call 46; refine (callsIn_wide.2 (members_any _ _)).mono ?_; rintro e w' ⟨rfl, rfl⟩)
  have h16 : 1 ≤ 6 := by omega
  have hmx : Tryd.prog.follows .mixedOrders = true := by kernel_rfl
  have hb3 := below3 w (.cells #[.slice a m c] 23) (.cells #[.int .i64 0] 54) (.cells #[.int .i64 (s : Int)] 54)
  have q0 : HasBlk (((w.alloc (.cells #[.slice a m c] 23)).alloc (.cells #[.int .i64 0] 54)).alloc (.cells #[.int .i64 (s : Int)] 54)) w.heap.size #[.slice a m c] 23 := alloc3_0 w _ _ _
  have q1 : Boxed (((w.alloc (.cells #[.slice a m c] 23)).alloc (.cells #[.int .i64 0] 54)).alloc (.cells #[.int .i64 (s : Int)] 54)) (w.heap.size + 1) 54 (.int .i64 ((nm ps (vals ([] : List (Mem m))) : Nat) : Int)) := alloc3_1 w _ _ _
  have hst := members_stops (6 - 1) (by omega) (w.heap.size + 1 + 1) (w.heap.size + 1) m s hm hs (((w.alloc (.cells #[.slice a m c] 23)).alloc (.cells #[.int .i64 0] 54)).alloc (.cells #[.int .i64 (s : Int)] 54)) (by simp) (by simp) (by have := HT.out.lt; omega)
    ((blk_cell (alloc3_2 w _ _ _) 0).trans (cell1_0 _)) (HT.out.below hb3 HT.out.lt)
  have HBB := Lib.hid hb3
  obtain ⟨Wo, hWo⟩ : ∃ Wo, ((w.alloc (.cells #[.slice a m c] 23)).alloc (.cells #[.int .i64 0] 54)).alloc (.cells #[.int .i64 (s : Int)] 54) = Wo := ⟨_, rfl⟩
  have hso : Wo.heap.size = w.heap.size + 3 := by rw [← hWo]; simp
  rw [hWo] at hst q0 q1 HBB ⊢
  have HSO := Lib.hid hso
  have Q0 := Lib.hid q0
  clear hWo hb3 hso q0
  refine wpIn_rangeFunc_ownG rfl h16 (gf := 78) (lb := #[.pointer (some ⟨w.heap.size + 1 + 1, 0, none⟩)]) rfl trivial (enters_of Tryd.func78 (by kernel_rfl) rfl)
    hst belowK_t (belowK_b (by have := HSO.out; omega)) (Below.refl _ _) (fun _ => rfl)
    (fun us W => Boxed W (w.heap.size + 1) 54 (.int .i64 ((nm ps (vals us) : Nat) : Int)) ∧ Below (w.heap.size + 1) Wo W)
    (fun _ _ _ => False)
    (OwnFrom.and (Own.from (boxed_own _ _ (fun us : List (Mem m) => Value.int .i64 ((nm ps (vals us) : Nat) : Int))) _) (ownFrom_below (by have := HSO.out; omega) (by have := HSO.out; omega)))
    (fun _ _ _ _ _ hs _ _ => hs)
    ⟨q1, Below.refl _ _⟩
    (fun x => { tmps := #[.int .i64 (s : Int), .slice a m c, undef, .pointer (some ⟨w.heap.size, 0, none⟩), .int .i64 0, .pointer (some ⟨w.heap.size + 1, 0, none⟩), .int .i64 (x.1 : Int), .int .i64 (s : Int), .func (.func 78) #[] #[.pointer (some ⟨w.heap.size + 1 + 1, 0, none⟩)], .int .i64 (x.1 : Int), undef, undef, undef, undef, undef, undef, undef], defers := [] }) ?assign ?body ?done ?stop
  case assign =>
    intro l x W K hK
    gi_wp2
    exact hK
  case body =>
    rintro l us x W ⟨hv, hB⟩ hlt
    obtain ⟨u, hu⟩ := x
    have q0 := (hB.block w.heap.size (by omega)).trans Q0.out
    have c0 := (blk_cell q0 0).trans (cell1_0 _)
    have c1 := hv.cell
    have cf := hv.frozen
    have hru := HP.out.rng u hu
    obtain ⟨pu, hpu⟩ : ∃ pu : Nat, ps[u]?.getD 0 = (pu : Int) := ⟨(ps[u]?.getD 0).toNat, by omega⟩
    have hp6 : pu < 8 := by omega
    obtain ⟨b1, o1, rfl, hb1, hc1⟩ := HA.out.at_ (k := u) (by rw [← HN.out]; omega)
    rw [hpu] at hc1
    have v1 := (hB.cell (p := ⟨b1, o1 + u, none⟩) (show b1 < w.heap.size + 1 by omega)).trans ((HBB.out.cell (p := ⟨b1, o1 + u, none⟩) hb1).trans hc1)
    obtain ⟨d, hd⟩ : ∃ d, d = nm ps (vals us) := ⟨_, rfl⟩
    have hd8 : d < 256 := by
      have := nm_lt ps (vals us) (by
        intro v hv
        obtain ⟨y, _, rfl⟩ := List.mem_map.1 hv
        have := HP.out.rng y.1 y.2
        omega)
      omega
    rw [← hd] at c1
    have hu0 : (0 : Int) ≤ (u : Int) := by omega
    have hu1 : (u : Int) < (m : Int) := by omega
    have HV := Lib.hid hv
    have HB := Lib.hid hB
    have HD := Lib.hid hd
    have HPU := Lib.hid hpu
    clear hv hB q0 hc1 hd hpu hru
    gi_wp2
    refine wpIn_region_still_tail_o (Fence.Open.wide.inRound l) 6 hmx (by kernel_rfl) (by kernel_rfl) ?_
    simp only [List.take_succ_cons, List.take_zero, List.drop_succ_cons, List.drop_zero]
    repeat still_step
    still_call ((with_any d pu hd8 hp6 _).mono fun _ _ h => ⟨h.1, h.2.symm⟩)
    repeat still_step
    refine wpStill_nil ?_
    change wpListIn _ _ _ _ _ _ _ W.drew
    gi_wp2
    refine ⟨((KeepsOthers.setCell _ _ _).trans (KeepsOthers.drew _)).from _, ((Below.refl _ W).setCell (p := ⟨w.heap.size + 1, 0, none⟩) (Nat.le_refl _) _).drew, ?_, (HB.out.setCell (p := ⟨w.heap.size + 1, 0, none⟩) (Nat.le_refl _) _).drew⟩
    rw [vals_snoc, nm_snoc, HPU.out, Int.toNat_natCast, ← HD.out]
    exact HV.out.set _
  case done =>
    rintro D us W hD hus ⟨hv, hB⟩ hK
    have hu2 : vals us = mem s := hus
    rw [hu2] at hv
    have c1 := hv.cell
    have HBW := Lib.hid hB
    clear hv hB
    gi_wp2
    refine ⟨by simp, .inl ⟨_, _, rfl, run_takeDeferred hK, ?_⟩⟩
    exact ⟨_, results_tmp rfl _ _ _, rfl, (HBB.out.trans (HBW.out.mono (by omega))).trans (belowK_b (w := w) (Nat.le_refl _) W D _ _ (by have := HSO.out; omega) hK rfl rfl)⟩
  case stop =>
    rintro D c pre W _ _ h _
    exact h.elim

set_option maxRecDepth 100000 in
set_option maxHeartbeats 1000000 in
/-- The closure of FamilyNamed: it reads the names out of their variable. -/
theorem namedFn_any (m s : Nat) (hm : m ≤ 6) (hs : s < 2 ^ m) (a : Option Addr) (c : Nat) (ps : List Int) (hp : Okp m ps) (X : Nat) (W : World) (hX : W.cell? ⟨X, 0, none⟩ = some (.slice a ps.length c)) (ha : Ints W W.heap.size a ps) (hT : Tab W) :
    Calls Tryd.prog 54 #[.int .i64 (s : Int), .pointer (some ⟨X, 0, none⟩)] W fun e W' => e = .returned (.int .i64 ((called ps s : Nat) : Int)) ∧ Below W.heap.size W W' := by
  have HA := Lib.hid ha
  have HT := Lib.hid hT
  clear ha hT
  go_enter Tryd.func54, Tryd.ntmps54
  go_wp2_with fail
  refine (named_any m s hm hs a c ps hp _ HA.out HT.out).mono ?_
  rintro e W' ⟨rfl, hb⟩
  have HB := Lib.hid hb
  clear hb
  go_wp2
  go_ret
  exact ⟨rfl, HB.out⟩

end Go.Proofs.YtgpgocijacgkhaaDoor

/- It is proved what the method and of a naming returns; conditions: those of each statement. -/
namespace Go.Proofs.YtgpgocijacgkhaaDoor
open Go.RowKit Go.Shelf

/-- Numbers as cells. -/
def iv (xs : List Int) : Array Value := (xs.map (Value.int .i64)).toArray

theorem iv_size (xs : List Int) : (iv xs).size = xs.length := by simp [iv]
theorem iv_at (xs : List Int) (i : Nat) (h : i < xs.length) : (iv xs)[i]? = some (.int .i64 (xs[i]?.getD 0)) := by simp [iv, h]
/-- Block b holds just these numbers. -/
def Nums (W : World) (b : Nat) (t : TypeId) (xs : List Int) : Prop := HasBlk W b (iv xs) t

theorem Nums.cell {W : World} {b : Nat} {t : TypeId} {xs : List Int} (h : Nums W b t xs) (i : Nat) (hi : i < xs.length) : W.cell? ⟨b, i, none⟩ = some (.int .i64 (xs[i]?.getD 0)) := (blk_cell h i).trans (iv_at xs i hi)
theorem Nums.frozen {W : World} {b : Nat} {t : TypeId} {xs : List Int} (h : Nums W b t xs) (i : Nat) : W.frozen? ⟨b, i, none⟩ = false := blk_frozen h i
theorem Nums.lt {W : World} {b : Nat} {t : TypeId} {xs : List Int} (h : Nums W b t xs) : b < W.heap.size := lt_of_some h
theorem Nums.alloc {W : World} {b : Nat} {t : TypeId} {xs : List Int} (h : Nums W b t xs) (o : Obj) : Nums (W.alloc o) b t xs := HasBlk.alloc h o
theorem Nums.kept {W W' : World} {b : Nat} {t : TypeId} {xs : List Int} {row : Option Nat} (h : Nums W b t xs) (hg : W.grownBy W' row) (hr : row ≠ some b) : Nums W' b t xs := HasBlk.kept h hg hr
theorem Nums.below {W W' : World} {b B : Nat} {t : TypeId} {xs : List Int} (h : Nums W b t xs) (hb : Below B W W') (hB : b < B) : Nums W' b t xs := (hb.block b hB).trans h
theorem Nums.far {W : World} {b : Nat} {t : TypeId} {xs : List Int} (h : Nums W b t xs) {p : Addr} (hp : b ≠ p.block) (u : Value) : Nums (W.setCell p u) b t xs := HasBlk.far h hp u
theorem Nums.set {W : World} {b : Nat} {t : TypeId} {xs : List Int} (h : Nums W b t xs) (i : Nat) (x : Int) : Nums (W.setCell ⟨b, i, none⟩ (.int .i64 x)) b t (xs.set i x) := by
  have := heap_setCell_same W b i (iv xs) t (.int .i64 x) h
  unfold Nums HasBlk
  rw [this]
  simp [iv, List.map_set]

theorem Nums.row {W : World} {b : Nat} {t : TypeId} {xs : List Int} (h : Nums W b t xs) (ys : List Int) : Nums (W.setRow b ((ys.map (Value.int .i64)).toArray)) b t ys := setRow_heap W b (iv xs) _ t _ h
def orI (x q : Int) : Int := ((x.toNat ||| 2 ^ q.toNat : Nat) : Int)
/-- A naming's cells: the first names, how many, what each member is called: behind one list of names more. -/
def andF (xs ps : List Int) : List Int := if xs[6]?.getD 0 = 0 then ps ++ xs.drop ps.length else xs

def andM (xs ps : List Int) : List Int := (andF xs ps).set 6 (xs[6]?.getD 0 + 1)
def andC (g ps : List Int) : Nat → List Int
  | 0 => g
  | k + 1 => (andC g ps k).set (7 + k) (orI ((andC g ps k)[7 + k]?.getD 0) (ps[k]?.getD 0))

def andL (xs ps : List Int) : List Int := andC (andM xs ps) ps ps.length
theorem andF_len {xs ps : List Int} (h : ps.length ≤ xs.length) : (andF xs ps).length = xs.length := by
  unfold andF; split
  · simp; omega
  · rfl

theorem andM_len {xs ps : List Int} (h : ps.length ≤ xs.length) : (andM xs ps).length = xs.length := by rw [andM, List.length_set, andF_len h]
theorem andC_len (g ps : List Int) : ∀ k, (andC g ps k).length = g.length
  | 0 => rfl
  | k + 1 => by rw [andC, List.length_set, andC_len g ps k]

/-- Places that no round writes. -/
theorem andC_far (g ps : List Int) (i : Nat) : ∀ k, (i < 7 ∨ 7 + k ≤ i) → (andC g ps k)[i]? = g[i]?
  | 0, _ => rfl
  | k + 1, h => by rw [andC, List.getElem?_set_ne (by omega), andC_far g ps i k (by omega)]

theorem andM_far {xs ps : List Int} (h : ps.length ≤ 6) (i : Nat) (hi : 7 ≤ i) : (andM xs ps)[i]? = xs[i]? := by
  rw [andM, List.getElem?_set_ne (by omega)]
  unfold andF; split
  · rw [List.getElem?_append_right (by omega), List.getElem?_drop]; congr 1; omega
  · rfl

theorem andC_here {xs ps : List Int} (h : ps.length ≤ 6) (k : Nat) : (andC (andM xs ps) ps k)[7 + k]?.getD 0 = xs[7 + k]?.getD 0 := by
  rw [andC_far _ _ _ k (by omega), andM_far h _ (by omega)]

theorem iv13 {xs : List Int} (h : xs.length = 13) : #[Value.int .i64 (xs[0]?.getD 0), .int .i64 (xs[1]?.getD 0), .int .i64 (xs[2]?.getD 0), .int .i64 (xs[3]?.getD 0), .int .i64 (xs[4]?.getD 0), .int .i64 (xs[5]?.getD 0), .int .i64 (xs[6]?.getD 0), .int .i64 (xs[7]?.getD 0), .int .i64 (xs[8]?.getD 0), .int .i64 (xs[9]?.getD 0), .int .i64 (xs[10]?.getD 0), .int .i64 (xs[11]?.getD 0), .int .i64 (xs[12]?.getD 0)] = iv xs := by
  obtain ⟨x0, x1, x2, x3, x4, x5, x6, x7, x8, x9, x10, x11, x12, rfl⟩ : ∃ x0 x1 x2 x3 x4 x5 x6 x7 x8 x9 x10 x11 x12 : Int, xs = [x0, x1, x2, x3, x4, x5, x6, x7, x8, x9, x10, x11, x12] := by
    match xs, h with
    | [x0, x1, x2, x3, x4, x5, x6, x7, x8, x9, x10, x11, x12], _ => exact ⟨_, _, _, _, _, _, _, _, _, _, _, _, _, rfl⟩
  rfl

theorem iv8 {xs : List Int} (h : xs.length = 8) : #[Value.int .i64 (xs[0]?.getD 0), .int .i64 (xs[1]?.getD 0), .int .i64 (xs[2]?.getD 0), .int .i64 (xs[3]?.getD 0), .int .i64 (xs[4]?.getD 0), .int .i64 (xs[5]?.getD 0), .int .i64 (xs[6]?.getD 0), .int .i64 (xs[7]?.getD 0)] = iv xs := by
  obtain ⟨x0, x1, x2, x3, x4, x5, x6, x7, rfl⟩ : ∃ x0 x1 x2 x3 x4 x5 x6 x7 : Int, xs = [x0, x1, x2, x3, x4, x5, x6, x7] := by
    match xs, h with
    | [x0, x1, x2, x3, x4, x5, x6, x7], _ => exact ⟨_, _, _, _, _, _, _, _, rfl⟩
  rfl

theorem iv_inj {xs ys : List Int} (h : iv xs = iv ys) : xs = ys := by
  have h2 : xs.map (Value.int .i64) = ys.map (Value.int .i64) := by simpa [iv] using h
  exact (List.map_inj_right (fun a b e => by injection e)).1 h2

end Go.Proofs.YtgpgocijacgkhaaDoor

/- It is proved what wantedBy and atLeast return; conditions: those of each statement. -/
namespace Go.Proofs.YtgpgocijacgkhaaDoor
open Go.RowKit Go.Shelf

def z5 : Array Value := #[Value.int IntKind.i64 0, Value.int IntKind.i64 0, Value.int IntKind.i64 0, Value.int IntKind.i64 0, Value.int IntKind.i64 0]
end Go.Proofs.YtgpgocijacgkhaaDoor

/- It is proved what slices.Sort and slices.Compact do with a list of the call's own; conditions: those of each statement. -/
namespace Go.Proofs.YtgpgocijacgkhaaDoor
open Go.RowKit

/- The numbers that the library's functions have in this program. -/
def sortLays_ren : Go.Shelf.Ren := ⟨fun | 189 => 109 | 125 => 112 | 257 => 111 | 128 => 123 | 129 => 124 | 294 => 114 | 295 => 115 | 296 => 116 | 297 => 117 | 298 => 118 | 299 => 119 | 216 => 120 | 300 => 121 | 301 => 122 | 328 => 125 | 329 => 126 | 330 => 127 | 331 => 128 | 332 => 129 | 215 => 113 | 343 => 130 | n => n, fun | 28 => 23 | 3 => 3 | 46 => 89 | 0 => 0 | 51 => 108 | 53 => 110 | 4 => 4 | 183 => 127 | 182 => 126 | 131 => 39 | 5 => 5 | 9 => 9 | 218 => 132 | 222 => 136 | 228 => 138 | 229 => 139 | n => n, fun | n => n⟩
theorem sortLays : Go.Proofs.Lays.n189 Tryd.prog sortLays_ren := {
  mixed := by kernel_rfl
  f125 := Tryd.func112.trans (congrArg some (by kernel_rfl))
  f128 := Tryd.func123.trans (congrArg some (by kernel_rfl))
  f129 := Tryd.func124.trans (congrArg some (by kernel_rfl))
  f189 := Tryd.func109.trans (congrArg some (by kernel_rfl))
  f215 := Tryd.func113.trans (congrArg some (by kernel_rfl))
  f216 := Tryd.func120.trans (congrArg some (by kernel_rfl))
  f257 := Tryd.func111.trans (congrArg some (by kernel_rfl))
  f294 := Tryd.func114.trans (congrArg some (by kernel_rfl))
  f295 := Tryd.func115.trans (congrArg some (by kernel_rfl))
  f296 := Tryd.func116.trans (congrArg some (by kernel_rfl))
  f297 := Tryd.func117.trans (congrArg some (by kernel_rfl))
  f298 := Tryd.func118.trans (congrArg some (by kernel_rfl))
  f299 := Tryd.func119.trans (congrArg some (by kernel_rfl))
  f300 := Tryd.func121.trans (congrArg some (by kernel_rfl))
  f301 := Tryd.func122.trans (congrArg some (by kernel_rfl))
  f328 := Tryd.func125.trans (congrArg some (by kernel_rfl))
  f329 := Tryd.func126.trans (congrArg some (by kernel_rfl))
  f330 := Tryd.func127.trans (congrArg some (by kernel_rfl))
  f331 := Tryd.func128.trans (congrArg some (by kernel_rfl))
  f332 := Tryd.func129.trans (congrArg some (by kernel_rfl))
  f343 := Tryd.func130.trans (congrArg some (by kernel_rfl))
  t0 := Tryd.underlying0
  a0 := Tryd.isAgg0
  z0 := Tryd.sizeOf0
  v0 := Tryd.zeroValue0
  t3 := Tryd.underlying3
  a3 := Tryd.isAgg3
  z3 := Tryd.sizeOf3
  v3 := Tryd.zeroValue3
  t4 := Tryd.underlying4
  a4 := Tryd.isAgg4
  z4 := Tryd.sizeOf4
  v4 := Tryd.zeroValue4
  t5 := Tryd.underlying5
  a5 := Tryd.isAgg5
  z5 := Tryd.sizeOf5
  v5 := Tryd.zeroValue5
  t9 := Tryd.underlying9
  a9 := Tryd.isAgg9
  z9 := Tryd.sizeOf9
  v9 := Tryd.zeroValue9
  t28 := Tryd.underlying23
  a28 := Tryd.isAgg23
  z28 := Tryd.sizeOf23
  v28 := Tryd.zeroValue23
  t46 := Tryd.underlying89
  a46 := Tryd.isAgg89
  z46 := Tryd.sizeOf89
  v46 := Tryd.zeroValue89
  t51 := Tryd.underlying108
  a51 := Tryd.isAgg108
  z51 := Tryd.sizeOf108
  v51 := Tryd.zeroValue108
  t53 := Tryd.underlying110
  a53 := Tryd.isAgg110
  z53 := Tryd.sizeOf110
  v53 := Tryd.zeroValue110
  t131 := Tryd.underlying39
  a131 := Tryd.isAgg39
  z131 := Tryd.sizeOf39
  v131 := Tryd.zeroValue39
  t182 := Tryd.underlying126
  a182 := Tryd.isAgg126
  z182 := Tryd.sizeOf126
  v182 := Tryd.zeroValue126
  t183 := Tryd.underlying127
  a183 := Tryd.isAgg127
  z183 := Tryd.sizeOf127
  v183 := Tryd.zeroValue127
  t218 := Tryd.underlying132
  a218 := Tryd.isAgg132
  z218 := Tryd.sizeOf132
  v218 := Tryd.zeroValue132
  t222 := Tryd.underlying136
  a222 := Tryd.isAgg136
  z222 := Tryd.sizeOf136
  v222 := Tryd.zeroValue136
  t228 := Tryd.underlying138
  a228 := Tryd.isAgg138
  z228 := Tryd.sizeOf138
  v228 := Tryd.zeroValue138
  t229 := Tryd.underlying139
  a229 := Tryd.isAgg139
  z229 := Tryd.sizeOf139
  v229 := Tryd.zeroValue139 }

theorem grown_below (w : World) (os : Array Obj) : Below w.heap.size w (Sort.grow w os) :=
  ⟨rfl, rfl, rfl, by simp, fun k hk => Sort.heap_grow_old w os hk⟩

theorem grownBy_put (w : World) (g q : Nat) (d : Array Int) : w.grownBy (Sort.putRow (Value.int .i64) (Sort.ahead w q) g 0 d) (some g) := by
  refine ⟨rfl, rfl, rfl, by simp [Sort.putRow, Sort.mapBlock, Sort.ahead], fun k hk hne => ?_⟩
  have : g ≠ k := fun e => hne (by rw [e])
  simp [Sort.putRow, Sort.mapBlock, Sort.ahead, Array.getElem?_modify, this]

end Go.Proofs.YtgpgocijacgkhaaDoor

/- It is proved that both sides look at names alike; conditions: those of each statement. -/
namespace Go.Proofs.YtgpgocijacgkhaaDoor
open Go.RowKit

/-- All names met, as a set. -/
def orP (ps : List Int) : Nat := ps.foldl (fun t p => t ||| 2 ^ p.toNat) 0

theorem orP_snoc (ps : List Int) (p : Int) : orP (ps ++ [p]) = orP ps ||| 2 ^ p.toNat := by simp [orP]
theorem orP_lt (m : Nat) (ps : List Int) (h : ∀ p ∈ ps, p.toNat < m) : orP ps < 2 ^ m := by
  have : ∀ t, t < 2 ^ m → ps.foldl (fun t p => t ||| 2 ^ p.toNat) t < 2 ^ m := by
    induction ps with
    | nil => intro t ht; exact ht
    | cons x ps ih =>
      intro t ht
      rw [List.foldl_cons]
      exact ih (fun y hy => h y (by simp [hy])) _ (Nat.or_lt_two_pow ht (Nat.pow_lt_pow_right (by decide) (h x (by simp))))
  exact this 0 (Nat.two_pow_pos m)

/-- Names in range. -/
def inR (m : Nat) (ps : List Int) : Bool := ps.all fun p => inB p 0 ((m : Int) - 1)

theorem inR_at {m : Nat} {ps : List Int} (h : inR m ps = true) {k : Nat} (hk : k < ps.length) : 0 ≤ ps[k]?.getD 0 ∧ ps[k]?.getD 0 < (m : Int) := by
  have := inB_out (List.all_eq_true.1 h ps[k] (List.getElem_mem hk))
  have e : ps[k]?.getD 0 = ps[k] := by simp [hk]
  rw [e]; omega

theorem inR_no {m : Nat} {ps : List Int} {k : Nat} (hk : k < ps.length) (h : inB (ps[k]?.getD 0) 0 ((m : Int) - 1) = false) : inR m ps = false := by
  refine List.all_eq_false.2 ⟨ps[k], List.getElem_mem hk, ?_⟩
  have e : ps[k]?.getD 0 = ps[k] := by simp [hk]
  rw [e] at h
  simp [h]

theorem inR_yes {m : Nat} {ps : List Int} (h : ∀ k, k < ps.length → inB (ps[k]?.getD 0) 0 ((m : Int) - 1) = true) : inR m ps = true := by
  refine List.all_eq_true.2 fun p hp => ?_
  obtain ⟨k, hk, rfl⟩ := List.getElem_of_mem hp
  have := h k hk
  rwa [show ps[k]?.getD 0 = ps[k] from by simp [hk]] at this

/-- Each of m numbers once. -/
def namesB (m : Nat) (ps : List Int) : Bool := inR m ps && (decide (ps.length = m) && decide (orP ps = 2 ^ m - 1))

/-- How many members a set has. -/
def popS (s : Nat) : Nat := (mem s).length

set_option maxRecDepth 100000 in
theorem pop_or : ∀ s, s < 64 → ∀ v, v < 6 → popS (s ||| 2 ^ v) = popS s + (if s.testBit v then 0 else 1) := by decide +kernel

set_option maxRecDepth 100000 in
theorem pop_full : ∀ m, m ≤ 6 → ∀ s, s < 2 ^ m → (popS s = m ↔ s = 2 ^ m - 1) := by decide +kernel

theorem take_snoc (ps : List Int) (k : Nat) (h : k < ps.length) : ps.take (k + 1) = ps.take k ++ [ps[k]?.getD 0] := by
  rw [List.take_succ_eq_append_getElem h]; simp [h]

theorem orP64 {m : Nat} (hm : m ≤ 6) {ps : List Int} (h : inR m ps = true) (k : Nat) : orP (ps.take k) < 64 := by
  have h1 := orP_lt m (ps.take k) (fun p hp => by
    have := inB_out (List.all_eq_true.1 h p (List.mem_of_mem_take hp))
    omega)
  exact Nat.lt_of_lt_of_le h1 (Nat.pow_le_pow_right (by decide) hm : 2 ^ m ≤ 2 ^ 6)

theorem pop_take {m : Nat} (hm : m ≤ 6) {ps : List Int} (h : inR m ps = true) : ∀ k, k ≤ ps.length → popS (orP (ps.take k)) ≤ k := by
  intro k
  induction k with
  | zero => intro _; simp [orP]; decide
  | succ k ih =>
    intro hk
    have h1 := inR_at h (k := k) (by omega)
    rw [take_snoc ps k (by omega), orP_snoc, pop_or _ (orP64 hm h k) _ (by omega)]
    have := ih (by omega)
    split <;> omega

/-- A name met twice. -/
theorem names_twice {m : Nat} (hm : m ≤ 6) {ps : List Int} (h : inR m ps = true) (hl : ps.length = m) {k : Nat} (hk : k < m) (ht : (orP (ps.take k)).testBit (ps[k]?.getD 0).toNat = true) : namesB m ps = false := by
  have key : ∀ j, k < j → j ≤ m → popS (orP (ps.take j)) < j := by
    intro j
    induction j with
    | zero => intro h1; omega
    | succ j ih =>
      intro h1 h2
      have h3 := inR_at h (k := j) (by omega)
      rw [take_snoc ps j (by omega), orP_snoc, pop_or _ (orP64 hm h j) _ (by omega)]
      rcases Nat.lt_or_ge k j with h4 | h4
      · have := ih h4 (by omega)
        split <;> omega
      · obtain rfl : k = j := by omega
        rw [if_pos ht]
        have := pop_take hm h k (by omega)
        omega
  have h5 := key m hk (Nat.le_refl _)
  rw [← hl, List.take_length] at h5
  have h6 := orP_lt m ps (fun p hp => by
    have := inB_out (List.all_eq_true.1 h p hp)
    omega)
  have h7 : ¬ orP ps = 2 ^ m - 1 := fun e => by
    have := (pop_full m hm _ h6).2 e
    omega
  simp [namesB, h7]

/-- No name met twice. -/
theorem names_once {m : Nat} (hm : m ≤ 6) {ps : List Int} (h : inR m ps = true) (hl : ps.length = m) (ht : ∀ k, k < m → (orP (ps.take k)).testBit (ps[k]?.getD 0).toNat = false) : namesB m ps = true := by
  have key : ∀ j, j ≤ m → popS (orP (ps.take j)) = j := by
    intro j
    induction j with
    | zero => intro _; simp [orP]; decide
    | succ j ih =>
      intro h2
      have h3 := inR_at h (k := j) (by omega)
      rw [take_snoc ps j (by omega), orP_snoc, pop_or _ (orP64 hm h j) _ (by omega), ht j (by omega)]
      have := ih (by omega)
      simp [this]
  have h5 := key m (Nat.le_refl _)
  rw [← hl, List.take_length] at h5
  have h6 := orP_lt m ps (fun p hp => by
    have := inB_out (List.all_eq_true.1 h p hp)
    omega)
  have h7 := (pop_full m hm _ h6).1 (by omega)
  simp [namesB, h, hl, h7]

theorem namesB_ok {m : Nat} (hm : m ≤ 6) {ps : List Int} (h : namesB m ps = true) : Okp m ps := by
  simp only [namesB, Bool.and_eq_true, decide_eq_true_eq] at h
  refine ⟨h.2.1, fun v hv => ?_⟩
  have := inR_at h.1 (k := v) (by omega)
  omega

end Go.Proofs.YtgpgocijacgkhaaDoor

/- It is proved what FamilyDual of the model returns; conditions: those of each statement. -/
namespace Go.Proofs.YtgpgocijacgkhaaDoor
open Go.RowKit

set_option maxRecDepth 100000 in
theorem or1_fin : ∀ x : Fin 256, ∀ e : Fin 2, ∀ p : Fin 8, bits BinOp.or IntKind.i64 (x.val : Int) ((e.val : Int) * 2 ^ p.val) = ((x.val ||| (e.val * 2 ^ p.val) : Nat) : Int) := by decide +kernel

theorem or1_at (x e p : Nat) (hx : x < 256) (he : e ≤ 1) (hp : p < 8) : bits BinOp.or IntKind.i64 (x : Int) ((e : Int) * 2 ^ p) = ((x ||| (e * 2 ^ p) : Nat) : Int) := or1_fin ⟨x, hx⟩ ⟨e, by omega⟩ ⟨p, hp⟩
theorem e2_small (e p : Nat) (he : e ≤ 1) (hp : p < 8) : (e : Int) * 2 ^ p ≤ 128 ∧ 0 ≤ (e : Int) * 2 ^ p := by
  obtain ⟨h1, h2⟩ := p2_small p hp
  obtain rfl | rfl : e = 0 ∨ e = 1 := by omega
  · simp
  · simp; omega

end Go.Proofs.YtgpgocijacgkhaaDoor
