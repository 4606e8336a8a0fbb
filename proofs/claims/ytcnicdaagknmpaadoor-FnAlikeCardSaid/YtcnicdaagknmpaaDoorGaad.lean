/- It is proved what the method and of a naming returns; conditions: those of each statement. -/
import Derived.Laws.CopyRow
import Derived.Lib.SlBuf
import Derived.Test.YtcnicdaagknmpaaDoorRows
import Derived.WalkKit
import Derived.WalkSpells
import Derived.ProofKit
import Derived.OpenShut
import Derived.ShutString
import Derived.ChangeOld
import Derived.Below
import Derived.Deep.RegionHeld3
import Derived.Deep.QuietTactic
import Derived.BigQuiet
import Derived.Lib.Hide
import Derived.Lib.SmallJoins
import Derived.Outline
import Derived.Laws.MakeOwn
import Derived.Laws.OwnMore
import Derived.IntWalk
import Derived.RangeFuncNested
import Derived.RangeFuncBound
import Derived.RangeFuncCalls
import Derived.RangeFuncLeaves
import Derived.RangeFuncBox
import Derived.Shelf.Abstract
import Derived.Shelf.RegionOpen
import Derived.OwnWalkIn
import Derived.TacticsInMore
import Derived.LoopNIn
import Derived.LoopIn
import Derived.Maps.AppendAt
import Derived.Deep.AppendLies
import Derived.OwnWalk
import Derived.Shelf.Spec.TrailingZeros
import Derived.Test.YtcnicdaagknmpaaDoorGaaa
import Derived.Test.YtcnicdaagknmpaaDoorGaac
import Derived.StillTailTactics
import Derived.Lib.AppendZeros
import Derived.Shelf.Sort.Plain
import Derived.Shelf.Slices.In.SortNone
import Derived.Shelf.Slices.CompactI
import Derived.Ground.Names2Prog
import Derived.Lib.OwnBridge
import Derived.Lib.SlicesCompact
import Derived.StillTail
import Derived.StillTactics
import Derived.OrdersIn
import Derived.TacticsIn
namespace Go.Proofs.YtcnicdaagknmpaaDoor
open Go.RowKit Go.Shelf

/-- Numbers as cells. -/
def iv (xs : List Int) : Array Value := (xs.map (Value.int .i64)).toArray

theorem iv_size (xs : List Int) : (iv xs).size = xs.length := by simp [iv]
theorem iv_at (xs : List Int) (i : Nat) (h : i < xs.length) : (iv xs)[i]? = some (.int .i64 (xs[i]?.getD 0)) := by simp [iv, h]
/-- Block b holds just these numbers. -/
def Nums (W : World) (b : Nat) (t : TypeId) (xs : List Int) : Prop := HasBlk W b (iv xs) t

theorem Nums.cell {W : World} {b : Nat} {t : TypeId} {xs : List Int} (h : Nums W b t xs) (i : Nat) (hi : i < xs.length) : W.cell? ⟨b, i, none⟩ = some (.int .i64 (xs[i]?.getD 0)) := (blk_cell h i).trans (iv_at xs i hi)
theorem Nums.frozen {W : World} {b : Nat} {t : TypeId} {xs : List Int} (h : Nums W b t xs) (i : Nat) : W.frozen? ⟨b, i, none⟩ = false := blk_frozen h i
theorem Nums.lt {W : World} {b : Nat} {t : TypeId} {xs : List Int} (h : Nums W b t xs) : b < W.heap.size := lt_of_some h
theorem Nums.alloc {W : World} {b : Nat} {t : TypeId} {xs : List Int} (h : Nums W b t xs) (o : Obj) : Nums (W.alloc o) b t xs := HasBlk.alloc h o
theorem Nums.kept {W W' : World} {b : Nat} {t : TypeId} {xs : List Int} {row : Option Nat} (h : Nums W b t xs) (hg : W.grownBy W' row) (hr : row ≠ some b) : Nums W' b t xs := HasBlk.kept h hg hr
theorem Nums.below {W W' : World} {b B : Nat} {t : TypeId} {xs : List Int} (h : Nums W b t xs) (hb : Below B W W') (hB : b < B) : Nums W' b t xs := (hb.block b hB).trans h
theorem Nums.far {W : World} {b : Nat} {t : TypeId} {xs : List Int} (h : Nums W b t xs) {p : Addr} (hp : b ≠ p.block) (u : Value) : Nums (W.setCell p u) b t xs := HasBlk.far h hp u
theorem Nums.set {W : World} {b : Nat} {t : TypeId} {xs : List Int} (h : Nums W b t xs) (i : Nat) (x : Int) : Nums (W.setCell ⟨b, i, none⟩ (.int .i64 x)) b t (xs.set i x) := by
  have := heap_setCell_same W b i (iv xs) t (.int .i64 x) h
  unfold Nums HasBlk
  rw [this]
  simp [iv, List.map_set]

theorem Nums.row {W : World} {b : Nat} {t : TypeId} {xs : List Int} (h : Nums W b t xs) (ys : List Int) : Nums (W.setRow b ((ys.map (Value.int .i64)).toArray)) b t ys := setRow_heap W b (iv xs) _ t _ h
def orI (x q : Int) : Int := ((x.toNat ||| 2 ^ q.toNat : Nat) : Int)
/-- A naming's cells: the first names, how many, what each member is called: behind one list of names more. -/
def andF (xs ps : List Int) : List Int := if xs[6]?.getD 0 = 0 then ps ++ xs.drop ps.length else xs

def andM (xs ps : List Int) : List Int := (andF xs ps).set 6 (xs[6]?.getD 0 + 1)
def andC (g ps : List Int) : Nat → List Int
  | 0 => g
  | k + 1 => (andC g ps k).set (7 + k) (orI ((andC g ps k)[7 + k]?.getD 0) (ps[k]?.getD 0))

def andL (xs ps : List Int) : List Int := andC (andM xs ps) ps ps.length
theorem andF_len {xs ps : List Int} (h : ps.length ≤ xs.length) : (andF xs ps).length = xs.length := by
  unfold andF; split
  · simp; omega
  · rfl

theorem andM_len {xs ps : List Int} (h : ps.length ≤ xs.length) : (andM xs ps).length = xs.length := by rw [andM, List.length_set, andF_len h]
theorem andC_len (g ps : List Int) : ∀ k, (andC g ps k).length = g.length
  | 0 => rfl
  | k + 1 => by rw [andC, List.length_set, andC_len g ps k]

/-- Places that no round writes. -/
theorem andC_far (g ps : List Int) (i : Nat) : ∀ k, (i < 7 ∨ 7 + k ≤ i) → (andC g ps k)[i]? = g[i]?
  | 0, _ => rfl
  | k + 1, h => by rw [andC, List.getElem?_set_ne (by omega), andC_far g ps i k (by omega)]

theorem andM_far {xs ps : List Int} (h : ps.length ≤ 6) (i : Nat) (hi : 7 ≤ i) : (andM xs ps)[i]? = xs[i]? := by
  rw [andM, List.getElem?_set_ne (by omega)]
  unfold andF; split
  · rw [List.getElem?_append_right (by omega), List.getElem?_drop]; congr 1; omega
  · rfl

theorem andC_here {xs ps : List Int} (h : ps.length ≤ 6) (k : Nat) : (andC (andM xs ps) ps k)[7 + k]?.getD 0 = xs[7 + k]?.getD 0 := by
  rw [andC_far _ _ _ k (by omega), andM_far h _ (by omega)]

theorem iv13 {xs : List Int} (h : xs.length = 13) : #[Value.int .i64 (xs[0]?.getD 0), .int .i64 (xs[1]?.getD 0), .int .i64 (xs[2]?.getD 0), .int .i64 (xs[3]?.getD 0), .int .i64 (xs[4]?.getD 0), .int .i64 (xs[5]?.getD 0), .int .i64 (xs[6]?.getD 0), .int .i64 (xs[7]?.getD 0), .int .i64 (xs[8]?.getD 0), .int .i64 (xs[9]?.getD 0), .int .i64 (xs[10]?.getD 0), .int .i64 (xs[11]?.getD 0), .int .i64 (xs[12]?.getD 0)] = iv xs := by
  obtain ⟨x0, x1, x2, x3, x4, x5, x6, x7, x8, x9, x10, x11, x12, rfl⟩ : ∃ x0 x1 x2 x3 x4 x5 x6 x7 x8 x9 x10 x11 x12 : Int, xs = [x0, x1, x2, x3, x4, x5, x6, x7, x8, x9, x10, x11, x12] := by
    match xs, h with
    | [x0, x1, x2, x3, x4, x5, x6, x7, x8, x9, x10, x11, x12], _ => exact ⟨_, _, _, _, _, _, _, _, _, _, _, _, _, rfl⟩
  rfl

theorem iv8 {xs : List Int} (h : xs.length = 8) : #[Value.int .i64 (xs[0]?.getD 0), .int .i64 (xs[1]?.getD 0), .int .i64 (xs[2]?.getD 0), .int .i64 (xs[3]?.getD 0), .int .i64 (xs[4]?.getD 0), .int .i64 (xs[5]?.getD 0), .int .i64 (xs[6]?.getD 0), .int .i64 (xs[7]?.getD 0)] = iv xs := by
  obtain ⟨x0, x1, x2, x3, x4, x5, x6, x7, rfl⟩ : ∃ x0 x1 x2 x3 x4 x5 x6 x7 : Int, xs = [x0, x1, x2, x3, x4, x5, x6, x7] := by
    match xs, h with
    | [x0, x1, x2, x3, x4, x5, x6, x7], _ => exact ⟨_, _, _, _, _, _, _, _, rfl⟩
  rfl

theorem iv_inj {xs ys : List Int} (h : iv xs = iv ys) : xs = ys := by
  have h2 : xs.map (Value.int .i64) = ys.map (Value.int .i64) := by simpa [iv] using h
  exact (List.map_inj_right (fun a b e => by injection e)).1 h2

end Go.Proofs.YtcnicdaagknmpaaDoor

/- It is proved what wantedBy and atLeast return; conditions: those of each statement. -/
namespace Go.Proofs.YtcnicdaagknmpaaDoor
open Go.RowKit Go.Shelf

def z5 : Array Value := #[Value.int IntKind.i64 0, Value.int IntKind.i64 0, Value.int IntKind.i64 0, Value.int IntKind.i64 0, Value.int IntKind.i64 0]
end Go.Proofs.YtcnicdaagknmpaaDoor

/- It is proved what slices.Sort and slices.Compact do with a list of the call's own; conditions: those of each statement. -/
namespace Go.Proofs.YtcnicdaagknmpaaDoor
open Go.RowKit

/- The numbers that the library's functions have in this program. -/
def sortLays_ren : Go.Shelf.Ren := ⟨fun | 189 => 64 | 125 => 68 | 257 => 67 | 128 => 79 | 129 => 80 | 294 => 70 | 295 => 71 | 296 => 72 | 297 => 73 | 298 => 74 | 299 => 75 | 216 => 76 | 300 => 77 | 301 => 78 | 328 => 81 | 329 => 82 | 330 => 83 | 331 => 84 | 332 => 85 | 215 => 69 | 343 => 86 | n => n, fun | 28 => 23 | 3 => 3 | 46 => 85 | 0 => 0 | 51 => 100 | 53 => 102 | 4 => 4 | 183 => 114 | 182 => 113 | 131 => 118 | 5 => 5 | 9 => 9 | 218 => 120 | 222 => 124 | 228 => 126 | 229 => 127 | n => n, fun | n => n⟩
theorem sortLays : Go.Proofs.Lays.n189 Tryd.prog sortLays_ren := {
  mixed := by kernel_rfl
  f125 := Tryd.func68.trans (congrArg some (by kernel_rfl))
  f128 := Tryd.func79.trans (congrArg some (by kernel_rfl))
  f129 := Tryd.func80.trans (congrArg some (by kernel_rfl))
  f189 := Tryd.func64.trans (congrArg some (by kernel_rfl))
  f215 := Tryd.func69.trans (congrArg some (by kernel_rfl))
  f216 := Tryd.func76.trans (congrArg some (by kernel_rfl))
  f257 := Tryd.func67.trans (congrArg some (by kernel_rfl))
  f294 := Tryd.func70.trans (congrArg some (by kernel_rfl))
  f295 := Tryd.func71.trans (congrArg some (by kernel_rfl))
  f296 := Tryd.func72.trans (congrArg some (by kernel_rfl))
  f297 := Tryd.func73.trans (congrArg some (by kernel_rfl))
  f298 := Tryd.func74.trans (congrArg some (by kernel_rfl))
  f299 := Tryd.func75.trans (congrArg some (by kernel_rfl))
  f300 := Tryd.func77.trans (congrArg some (by kernel_rfl))
  f301 := Tryd.func78.trans (congrArg some (by kernel_rfl))
  f328 := Tryd.func81.trans (congrArg some (by kernel_rfl))
  f329 := Tryd.func82.trans (congrArg some (by kernel_rfl))
  f330 := Tryd.func83.trans (congrArg some (by kernel_rfl))
  f331 := Tryd.func84.trans (congrArg some (by kernel_rfl))
  f332 := Tryd.func85.trans (congrArg some (by kernel_rfl))
  f343 := Tryd.func86.trans (congrArg some (by kernel_rfl))
  t0 := Tryd.underlying0
  a0 := Tryd.isAgg0
  z0 := Tryd.sizeOf0
  v0 := Tryd.zeroValue0
  t3 := Tryd.underlying3
  a3 := Tryd.isAgg3
  z3 := Tryd.sizeOf3
  v3 := Tryd.zeroValue3
  t4 := Tryd.underlying4
  a4 := Tryd.isAgg4
  z4 := Tryd.sizeOf4
  v4 := Tryd.zeroValue4
  t5 := Tryd.underlying5
  a5 := Tryd.isAgg5
  z5 := Tryd.sizeOf5
  v5 := Tryd.zeroValue5
  t9 := Tryd.underlying9
  a9 := Tryd.isAgg9
  z9 := Tryd.sizeOf9
  v9 := Tryd.zeroValue9
  t28 := Tryd.underlying23
  a28 := Tryd.isAgg23
  z28 := Tryd.sizeOf23
  v28 := Tryd.zeroValue23
  t46 := Tryd.underlying85
  a46 := Tryd.isAgg85
  z46 := Tryd.sizeOf85
  v46 := Tryd.zeroValue85
  t51 := Tryd.underlying100
  a51 := Tryd.isAgg100
  z51 := Tryd.sizeOf100
  v51 := Tryd.zeroValue100
  t53 := Tryd.underlying102
  a53 := Tryd.isAgg102
  z53 := Tryd.sizeOf102
  v53 := Tryd.zeroValue102
  t131 := Tryd.underlying118
  a131 := Tryd.isAgg118
  z131 := Tryd.sizeOf118
  v131 := Tryd.zeroValue118
  t182 := Tryd.underlying113
  a182 := Tryd.isAgg113
  z182 := Tryd.sizeOf113
  v182 := Tryd.zeroValue113
  t183 := Tryd.underlying114
  a183 := Tryd.isAgg114
  z183 := Tryd.sizeOf114
  v183 := Tryd.zeroValue114
  t218 := Tryd.underlying120
  a218 := Tryd.isAgg120
  z218 := Tryd.sizeOf120
  v218 := Tryd.zeroValue120
  t222 := Tryd.underlying124
  a222 := Tryd.isAgg124
  z222 := Tryd.sizeOf124
  v222 := Tryd.zeroValue124
  t228 := Tryd.underlying126
  a228 := Tryd.isAgg126
  z228 := Tryd.sizeOf126
  v228 := Tryd.zeroValue126
  t229 := Tryd.underlying127
  a229 := Tryd.isAgg127
  z229 := Tryd.sizeOf127
  v229 := Tryd.zeroValue127 }

theorem grown_below (w : World) (os : Array Obj) : Below w.heap.size w (Sort.grow w os) :=
  ⟨rfl, rfl, rfl, by simp, fun k hk => Sort.heap_grow_old w os hk⟩

theorem grownBy_put (w : World) (g q : Nat) (d : Array Int) : w.grownBy (Sort.putRow (Value.int .i64) (Sort.ahead w q) g 0 d) (some g) := by
  refine ⟨rfl, rfl, rfl, by simp [Sort.putRow, Sort.mapBlock, Sort.ahead], fun k hk hne => ?_⟩
  have : g ≠ k := fun e => hne (by rw [e])
  simp [Sort.putRow, Sort.mapBlock, Sort.ahead, Array.getElem?_modify, this]

end Go.Proofs.YtcnicdaagknmpaaDoor

/- It is proved that both sides look at names alike; conditions: those of each statement. -/
namespace Go.Proofs.YtcnicdaagknmpaaDoor
open Go.RowKit

/-- All names met, as a set. -/
def orP (ps : List Int) : Nat := ps.foldl (fun t p => t ||| 2 ^ p.toNat) 0

theorem orP_snoc (ps : List Int) (p : Int) : orP (ps ++ [p]) = orP ps ||| 2 ^ p.toNat := by simp [orP]
theorem orP_lt (m : Nat) (ps : List Int) (h : ∀ p ∈ ps, p.toNat < m) : orP ps < 2 ^ m := by
  have : ∀ t, t < 2 ^ m → ps.foldl (fun t p => t ||| 2 ^ p.toNat) t < 2 ^ m := by
    induction ps with
    | nil => intro t ht; exact ht
    | cons x ps ih =>
      intro t ht
      rw [List.foldl_cons]
      exact ih (fun y hy => h y (by simp [hy])) _ (Nat.or_lt_two_pow ht (Nat.pow_lt_pow_right (by decide) (h x (by simp))))
  exact this 0 (Nat.two_pow_pos m)

/-- Names in range. -/
def inR (m : Nat) (ps : List Int) : Bool := ps.all fun p => inB p 0 ((m : Int) - 1)

theorem inR_at {m : Nat} {ps : List Int} (h : inR m ps = true) {k : Nat} (hk : k < ps.length) : 0 ≤ ps[k]?.getD 0 ∧ ps[k]?.getD 0 < (m : Int) := by
  have := inB_out (List.all_eq_true.1 h ps[k] (List.getElem_mem hk))
  have e : ps[k]?.getD 0 = ps[k] := by simp [hk]
  rw [e]; omega

theorem inR_no {m : Nat} {ps : List Int} {k : Nat} (hk : k < ps.length) (h : inB (ps[k]?.getD 0) 0 ((m : Int) - 1) = false) : inR m ps = false := by
  refine List.all_eq_false.2 ⟨ps[k], List.getElem_mem hk, ?_⟩
  have e : ps[k]?.getD 0 = ps[k] := by simp [hk]
  rw [e] at h
  simp [h]

theorem inR_yes {m : Nat} {ps : List Int} (h : ∀ k, k < ps.length → inB (ps[k]?.getD 0) 0 ((m : Int) - 1) = true) : inR m ps = true := by
  refine List.all_eq_true.2 fun p hp => ?_
  obtain ⟨k, hk, rfl⟩ := List.getElem_of_mem hp
  have := h k hk
  rwa [show ps[k]?.getD 0 = ps[k] from by simp [hk]] at this

/-- Each of m numbers once. -/
def namesB (m : Nat) (ps : List Int) : Bool := inR m ps && (decide (ps.length = m) && decide (orP ps = 2 ^ m - 1))

/-- How many members a set has. -/
def popS (s : Nat) : Nat := (mem s).length

set_option maxRecDepth 100000 in
theorem pop_or : ∀ s, s < 64 → ∀ v, v < 6 → popS (s ||| 2 ^ v) = popS s + (if s.testBit v then 0 else 1) := by decide +kernel

set_option maxRecDepth 100000 in
theorem pop_full : ∀ m, m ≤ 6 → ∀ s, s < 2 ^ m → (popS s = m ↔ s = 2 ^ m - 1) := by decide +kernel

theorem take_snoc (ps : List Int) (k : Nat) (h : k < ps.length) : ps.take (k + 1) = ps.take k ++ [ps[k]?.getD 0] := by
  rw [List.take_succ_eq_append_getElem h]; simp [h]

theorem orP64 {m : Nat} (hm : m ≤ 6) {ps : List Int} (h : inR m ps = true) (k : Nat) : orP (ps.take k) < 64 := by
  have h1 := orP_lt m (ps.take k) (fun p hp => by
    have := inB_out (List.all_eq_true.1 h p (List.mem_of_mem_take hp))
    omega)
  exact Nat.lt_of_lt_of_le h1 (Nat.pow_le_pow_right (by decide) hm : 2 ^ m ≤ 2 ^ 6)

theorem pop_take {m : Nat} (hm : m ≤ 6) {ps : List Int} (h : inR m ps = true) : ∀ k, k ≤ ps.length → popS (orP (ps.take k)) ≤ k := by
  intro k
  induction k with
  | zero => intro _; simp [orP]; decide
  | succ k ih =>
    intro hk
    have h1 := inR_at h (k := k) (by omega)
    rw [take_snoc ps k (by omega), orP_snoc, pop_or _ (orP64 hm h k) _ (by omega)]
    have := ih (by omega)
    split <;> omega

/-- A name met twice. -/
theorem names_twice {m : Nat} (hm : m ≤ 6) {ps : List Int} (h : inR m ps = true) (hl : ps.length = m) {k : Nat} (hk : k < m) (ht : (orP (ps.take k)).testBit (ps[k]?.getD 0).toNat = true) : namesB m ps = false := by
  have key : ∀ j, k < j → j ≤ m → popS (orP (ps.take j)) < j := by
    intro j
    induction j with
    | zero => intro h1; omega
    | succ j ih =>
      intro h1 h2
      have h3 := inR_at h (k := j) (by omega)
      rw [take_snoc ps j (by omega), orP_snoc, pop_or _ (orP64 hm h j) _ (by omega)]
      rcases Nat.lt_or_ge k j with h4 | h4
      · have := ih h4 (by omega)
        split <;> omega
      · obtain rfl : k = j := by omega
        rw [if_pos ht]
        have := pop_take hm h k (by omega)
        omega
  have h5 := key m hk (Nat.le_refl _)
  rw [← hl, List.take_length] at h5
  have h6 := orP_lt m ps (fun p hp => by
    have := inB_out (List.all_eq_true.1 h p hp)
    omega)
  have h7 : ¬ orP ps = 2 ^ m - 1 := fun e => by
    have := (pop_full m hm _ h6).2 e
    omega
  simp [namesB, h7]

theorem namesB_ok {m : Nat} (hm : m ≤ 6) {ps : List Int} (h : namesB m ps = true) : Okp m ps := by
  simp only [namesB, Bool.and_eq_true, decide_eq_true_eq] at h
  refine ⟨h.2.1, fun v hv => ?_⟩
  have := inR_at h.1 (k := v) (by omega)
  omega

end Go.Proofs.YtcnicdaagknmpaaDoor

/- It is proved how lists of the call's own and boxed families read; conditions: the bounds in each statement. -/
namespace Go.Proofs.YtcnicdaagknmpaaDoor
open Go.RowKit

theorem own_ints {w : World} {B : Nat} {a : Option Addr} {n cap : Nat} {zs : List Int} (h : OwnI w B (.slice a n cap) zs) : Ints w w.heap.size a zs := by
  rcases h.2 with ⟨h2, hn⟩ | ⟨g, c, cur, e, hb, hg, r⟩
  · exact .inl (List.eq_nil_of_length_eq_zero hn)
  · injection e with e1 e2 e3
    subst e1
    refine .inr ⟨g, 0, rfl, (Array.getElem?_eq_some_iff.1 hg).1, fun j hj => ?_⟩
    have h' : w.ownsRow B 3 1 (.slice (some ⟨g, 0, none⟩) zs.length c) zs.length (zs.map (Value.int .i64)) := ⟨h.1, .inr ⟨g, c, cur, rfl, hb, hg, r⟩⟩
    have := h'.cellAt j (by omega)
    simpa [hj] using this

end Go.Proofs.YtcnicdaagknmpaaDoor

/- It is proved that the call of the law FnExactFamilyDegrees returns true, given what the two functions return; conditions: those of each statement. -/
namespace Go.Proofs.YtcnicdaagknmpaaDoor
open Go.RowKit

/-- What a function of a family that hands back a list and a bool returns. -/
def RetSB (w : World) (zs : List Int) (ok : Bool) (e : Ending) (w' : World) : Prop :=
  ∃ a cap, e = .returned (.tuple #[.slice a zs.length cap, .bool ok]) ∧ OwnI w' w.heap.size (.slice a zs.length cap) zs ∧ Below w.heap.size w w'

/-- A list of ints of the call's own, in a block of lo, .., hi - 1 (or nil). -/
structure XO (lo hi : Nat) (a : Option Addr) (n cap : Nat) (zs : List Int) (W : World) : Prop where
  own : OwnN W lo a n cap zs
  rng : ∀ g, (Value.slice a n cap).ownBlock = some g → lo ≤ g ∧ g < hi
  size : hi ≤ W.heap.size

theorem XO.ints {lo hi : Nat} {a : Option Addr} {n cap : Nat} {zs : List Int} {W : World} (h : XO lo hi a n cap zs W) : Ints W W.heap.size a zs := by
  have h1 := h.own
  have hl : zs.length = n := by have := h1.1; simpa using this
  subst hl
  exact own_ints (n := zs.length) (cap := cap) (B := lo) h1

theorem XO.kept {lo hi : Nat} {a : Option Addr} {n cap : Nat} {zs : List Int} {W W' : World} {row : Option Nat} (h : XO lo hi a n cap zs W) (hg : W.grownBy W' row) (hr : ∀ g, row = some g → g < lo ∨ hi ≤ g) : XO lo hi a n cap zs W' := by
  refine ⟨World.ownsRow.kept h.own hg ?_, h.rng, Nat.le_trans h.size hg.size⟩
  cases ho : (Value.slice a n cap).ownBlock with
  | none => exact .inl rfl
  | some g =>
    right
    intro e
    have h1 := h.rng g ho
    have h2 := hr g e.symm
    omega

theorem XO.step {lo hi : Nat} {a : Option Addr} {n cap : Nat} {zs : List Int} {W W' : World} (h : XO lo hi a n cap zs W) (hb : Below W.heap.size W W') : XO lo hi a n cap zs W' :=
  h.kept (only_of_below hb none) (fun g e => by cases e)

theorem XO.drew {lo hi : Nat} {a : Option Addr} {n cap : Nat} {zs : List Int} {W : World} (h : XO lo hi a n cap zs W) : XO lo hi a n cap zs W.drew := ⟨h.own, h.rng, h.size⟩
theorem XO.marked {lo hi : Nat} {a : Option Addr} {n cap : Nat} {zs : List Int} {W W' : World} (h : XO lo hi a n cap zs W) (ho : OwnI W' lo (.slice a n cap) (marks n)) (hg : W.grownBy W' (Value.slice a n cap).ownBlock) : XO lo hi a n cap (marks n) W' := by
  refine ⟨?_, h.rng, Nat.le_trans h.size hg.size⟩
  have := ho
  unfold OwnI at this
  rwa [marks_length] at this

theorem XO.start {w : World} {lo : Nat} {a : Option Addr} {cap : Nat} {zs : List Int} (ho : OwnI w lo (.slice a zs.length cap) zs) : XO lo w.heap.size a zs.length cap zs w :=
  ⟨ho, fun g e => World.ownsRow.lt ho g e, Nat.le_refl _⟩

theorem XO.ownI {lo hi : Nat} {a : Option Addr} {cap : Nat} {zs : List Int} {W : World} (h : XO lo hi a zs.length cap zs W) : OwnI W lo (.slice a zs.length cap) zs := h.own
end Go.Proofs.YtcnicdaagknmpaaDoor

/- It is proved what FamilyDegrees of the program returns; conditions: those of each statement. -/
namespace Go.Proofs.YtcnicdaagknmpaaDoor
open Go.RowKit Go.Shelf

attribute [local go_sem] Oper.semAt_some

def famDeg (m : Int) (zs : List Int) : List Int := if famIn m zs then degL m.toNat (allMem zs) else []
set_option maxRecDepth 100000 in
set_option maxHeartbeats 2000000 in
theorem implDegrees_no (m : Int) (a : Option Addr) (c : Nat) (zs : List Int) (w : World) (ha : Ints w w.heap.size a zs) (hx : zs.length ≤ 1048576) (hf : famIn m zs = false) :
    Calls Tryd.prog 8 #[.agg #[.int .i64 m, .slice a zs.length c]] w (RetSB w [] false) := by
  have HA := Lib.hid ((ha.below (below1 w (.cells #[.int .i64 m, .slice a zs.length c] 25))).mono (B' := (w.alloc (.cells #[.int .i64 m, .slice a zs.length c] 25)).heap.size) (by simp))
  have HF := Lib.hid hf
  clear hf ha
  go_enter Tryd.func8, Tryd.ntmps8
  go_wp2_with (go_at_call 18; refine (implFamilyIn_any _ _ _ zs _ HA.out hx).mono ?_; rintro e w1 ⟨rfl, hb⟩; rw [HF.out]; have HB := Lib.hid hb; clear hb)
  go_ret2
  exact ⟨none, 0, rfl, World.ownsRow_nil _ _ 3 1, (below1 _ _).trans (HB.out.mono (by simp))⟩

set_option maxRecDepth 100000 in
set_option maxHeartbeats 4000000 in
theorem implDegrees_yes (m : Nat) (a : Option Addr) (c : Nat) (zs : List Int) (w : World) (ha : Ints w w.heap.size a zs) (hT : Tab w) (hx : zs.length ≤ 1048576) (hf : famIn (m : Int) zs = true) :
    Calls Tryd.prog 8 #[.agg #[.int .i64 (m : Int), .slice a zs.length c]] w (RetSB w (degL m (allMem zs)) true) := by
  obtain ⟨i0, hi0, hz0, hz1, hz2⟩ := info_parts Tryd.info3
  have HA := Lib.hid ((ha.below (below1 w (.cells #[.int .i64 (m : Int), .slice a zs.length c] 25))).mono (B' := (w.alloc (.cells #[.int .i64 (m : Int), .slice a zs.length c] 25)).heap.size) (by simp))
  have HI := Lib.hid ha
  have HF := Lib.hid hf
  have HT := Lib.hid hT
  have hPc := isClub_all hf
  obtain ⟨hm1, hm6, hl8, -⟩ := famIn_out hf
  have hm6' : m ≤ 6 := by omega
  clear hf ha hT
  refine (callsIn_wide (n := 6)).1 ?_
  refine callsIn_of_wp_marks Tryd.func8 rfl trivial ?_ rfl
  simp only [Tryd.ntmps8, List.size_toArray, List.length_cons, List.length_nil, Nat.reduceAdd, Nat.reduceSub, Array.replicate_succ, Array.replicate_zero, List.push_toArray, List.append_toArray, List.nil_append, List.cons_append]
  gi_wp2_with fail
  refine ⟨trivial, (callsIn_wide.2 (implFamilyIn_any _ _ _ zs _ HA.out hx)).mono ?_⟩
  rintro e w1 ⟨rfl, hb⟩
  rw [HF.out]
  have q0 : w1.heap[w.heap.size]? = some (.cells #[.int .i64 (m : Int), .slice a zs.length c] 25 (0, 0)) := (hb.block _ (by simp)).trans (alloc_new w _)
  have x0 := blk_cell q0 0
  have x1 := blk_cell q0 1
  have xs : w.heap.size + 1 ≤ w1.heap.size := by have := hb.size; simpa using this
  have HB := Lib.hid ((below1 w _).trans (hb.mono (by simp)))
  have Q0 := Lib.hid q0
  simp only [cell2_0, cell2_1] at x0 x1
  clear hb q0
  gi_wp2_with (gi_at_make; refine mark_make ?_)
  refine unmark_make ?_
  refine wpListIn_make_fullD _ rfl _ _ 23 rfl w1.heap.size 3 i0 (.int .i64 0) 1 Tryd.underlying23 hi0 hz0 hz1 .i64 .i64 m rfl rfl (by rw [hz2]; omega) (by simp only [maxLen]; omega) (Nat.le_refl _) ?_
  intro w2 hown hg
  have y0 := ((hg.block w.heap.size (by omega) (by simp)).trans Q0.out : w2.heap[w.heap.size]? = _)
  have z0 := blk_cell (w := w2.alloc (.cells #[.slice (some ⟨w1.heap.size, 0, none⟩) m m] 23)) ((alloc_old _ _ _ (lt_of_some y0)).trans y0) 0
  have z1 := blk_cell (w := w2.alloc (.cells #[.slice (some ⟨w1.heap.size, 0, none⟩) m m] 23)) ((alloc_old _ _ _ (lt_of_some y0)).trans y0) 1
  have hGl : w1.heap.size < w2.heap.size := by have := (World.ownsRow.lt hown _ rfl).2; simpa using this
  have HO : Hid (w2.ownsRow w1.heap.size 3 1 (.slice (some ⟨w1.heap.size, 0, none⟩) m m) m ((degL m []).map (Value.int .i64))) := Lib.hid (by rw [degL_nil]; have := hown; rw [show (madeCells (Value.int .i64 0).cells (m * 1)).toList = (List.replicate m (0 : Int)).map (Value.int .i64) from by rw [show (Value.int .i64 0).cells = #[Value.int .i64 0] from rfl, toList_madeCells_one]; simp] at this; exact this)
  have HG := Lib.hid (HB.out.trans (((Below.refl _ _).grown hg (Nat.le_refl _) (by simp) : Below w1.heap.size w1 w2).mono (by omega)))
  simp only [cell2_0, cell2_1] at z0 z1
  clear hown hg y0 x0 x1
  gi_wp2_with (refine ⟨trivial, ?_⟩; gi_at_call 23; refine (callsIn_wide.2 (clubs_any _ _ _ _ _)).mono ?_; rintro e w' ⟨rfl, rfl⟩)
  have hle : w.heap.size ≤ w2.heap.size := by omega
  have h16 : 1 ≤ 6 := by omega
  have bD := Boxed.new w2 23 (.slice (some ⟨w1.heap.size, 0, none⟩) m m)
  have HBB : Hid (Below w.heap.size w ((w2.alloc (.cells #[.slice (some ⟨w1.heap.size, 0, none⟩) m m] 23)).alloc (.cells #[.int .i64 (m : Int), .slice a zs.length c] 25))) := Lib.hid (HG.out.trans ((below2 w2 _ _).mono (by omega)))
  have hst := clubsP_stops (IsClub m) (6 - 1) (by omega) (w2.heap.size + 1) w.heap.size a c zs hx hPc ((w2.alloc (.cells #[.slice (some ⟨w1.heap.size, 0, none⟩) m m] 23)).alloc (.cells #[.int .i64 (m : Int), .slice a zs.length c] 25)) (by simp) (by simp; omega)
    (by simp) (HI.out.below HBB.out)
  have h0 : RowBox w2.heap.size w1.heap.size w.heap.size m (degL m (allMem (sets ([] : List { p // IsClub m p })))) ((w2.alloc (.cells #[.slice (some ⟨w1.heap.size, 0, none⟩) m m] 23)).alloc (.cells #[.int .i64 (m : Int), .slice a zs.length c] 25)) :=
    ⟨_, bD.alloc _, by have := ownsRow_base HO.out (B := w.heap.size) (by omega); exact (this.alloc _).alloc _, rfl⟩
  obtain ⟨Wo, hWo⟩ : ∃ Wo, (w2.alloc (.cells #[.slice (some ⟨w1.heap.size, 0, none⟩) m m] 23)).alloc (.cells #[.int .i64 (m : Int), .slice a zs.length c] 25) = Wo := ⟨_, rfl⟩
  have hso : Wo.heap.size = w2.heap.size + 1 + 1 := by rw [← hWo]; simp
  rw [hWo] at hst HBB h0 ⊢
  have HSO := Lib.hid hso
  clear hWo bD hso
  refine wpIn_rangeFunc_ownH rfl h16 (gf := 41) (lb := #[.pointer (some ⟨w2.heap.size + 1, 0, none⟩)]) rfl trivial (enters_of Tryd.func41 (by kernel_rfl) rfl)
    hst belowK_t (belowK_b (by have := HSO.out; omega)) (Below.refl _ _) (fun _ => rfl)
    (fun pre W => RowBox w2.heap.size w1.heap.size w.heap.size m (degL m (allMem (sets pre))) W ∧ Below w.heap.size w W)
    (fun _ _ _ => False)
    (OwnFrom.and (Own.from (RowBox.own _ _ _ _ (fun pre => degL m (allMem (sets pre)))) _) (ownFrom_below (Nat.le_refl _) (by have := HSO.out; omega)))
    (fun _ _ _ _ _ hs _ _ => hs)
    ⟨h0, HBB.out⟩
    (fun x a' _ => a' = { tmps := #[.agg #[.int .i64 (m : Int), .slice a zs.length c], .pointer (some ⟨w.heap.size, 0, none⟩), .slice none 0 0, .bool false, .pointer (some ⟨w2.heap.size, 0, none⟩), undef, .int .i64 x.1.2, undef, .agg #[.int .i64 (m : Int), .slice a zs.length c], .bool true, .bool false, .pointer (some ⟨w.heap.size, 0, none⟩), .int .i64 (m : Int), .slice (some ⟨w1.heap.size, 0, none⟩) m m, .agg #[.int .i64 (m : Int), .slice a zs.length c], .func (.func 41) #[] #[.pointer (some ⟨w2.heap.size + 1, 0, none⟩)], .int .i64 (x.1.1 : Int), .int .i64 x.1.2, undef, undef, undef, undef, undef, undef, undef, undef, undef, undef], defers := [] })
    (fun _ _ _ _ _ _ hs _ _ => hs)
    ?assign ?body ?done ?stop
  case assign =>
    rintro l pre x W K hi hK
    gi_wp2
    exact hK _ _ (KeepsFrom.refl _ _) (Below.refl _ _) hi rfl
  case body =>
    rintro l pre x a' W hl ⟨r, hr⟩ ⟨hv, hB⟩ rfl hlt
    obtain ⟨s, hs⟩ : ∃ s : Nat, x.1.2 = (s : Int) := ⟨x.1.2.toNat, by have := x.2.2.1; omega⟩
    have hs2 : s < 2 ^ m := by have := x.2.2.2; rw [hs] at this; simpa using this
    rw [hs]
    have HV := Lib.hid hv
    have HBW := Lib.hid hB
    have hWs : w.heap.size ≤ W.heap.size := hB.size
    have h1' : 1 ≤ 6 - 1 - 1 := by omega
    clear hv hB
    gi_wp2_with (refine ⟨trivial, ?_⟩; gi_at_call 25; refine (callsIn_wide.2 (members_any _ _)).mono ?_; rintro e w' ⟨rfl, rfl⟩)
    have hDW : w2.heap.size < W.heap.size := HV.out.box.lt
    have hst2 := (members_stops (6 - 1 - 1 - 1) (by omega) W.heap.size w.heap.size m s hm6' hs2 (W.alloc (.cells #[.int .i64 (s : Int)] 54)) (by simp) (by simp; omega) HT.out.lt (by simp)
      (HT.out.below (HBW.out.alloc hWs _) HT.out.lt)).inRound l
    have hr' : (W.alloc (.cells #[.int .i64 (s : Int)] 54)).heap[l]? = some (.loop r) := (alloc_old W _ l (lt_of_some hr)).trans hr
    have h00 : RowBox w2.heap.size w1.heap.size w.heap.size m (degL m (allMem (sets pre) ++ vals ([] : List (Mem m)))) (W.alloc (.cells #[.int .i64 (s : Int)] 54)) := by
      rw [vals_nil, List.append_nil]; exact HV.out.alloc _
    have hbl : (allMem (sets pre)).length ≤ 48 := by have := sets_len hm6' pre; omega
    refine wpIn_rangeFunc_ownN (l₀ := l) (r₀ := r) rfl hr' h1' (gf := 43) (lb := #[.pointer (some ⟨W.heap.size, 0, none⟩)]) rfl trivial (enters_of Tryd.func43 (by kernel_rfl) rfl)
      hst2 belowK_t (belowK_b (by simp; omega)) (Below.refl _ _) (fun _ => rfl)
      (fun us W' => RowBox w2.heap.size w1.heap.size w.heap.size m (degL m (allMem (sets pre) ++ vals us)) W' ∧ (Below w.heap.size W W' ∧ KeepsFrom Wo.heap.size W W'))
      (fun _ _ _ => False)
      (OwnFrom.and (Own.from (RowBox.own _ _ _ _ (fun us => degL m (allMem (sets pre) ++ vals us))) _) (OwnFrom.and (ownFrom_below hWs (by simp; omega)) (ownFrom_keepsFrom (by simp))))
      (fun _ _ _ _ _ hs _ _ => hs)
      ⟨h00, (Below.refl _ W).alloc hWs _, (KeepsOthers.alloc _ _).from _⟩
      (fun y a'' _ => a'' = { tmps := #[.agg #[.int .i64 (m : Int), .slice a zs.length c], .pointer (some ⟨w.heap.size, 0, none⟩), .slice none 0 0, .bool false, .pointer (some ⟨w2.heap.size, 0, none⟩), undef, .int .i64 (s : Int), .int .i64 (y.1 : Int), .agg #[.int .i64 (m : Int), .slice a zs.length c], .bool true, .bool false, .pointer (some ⟨w.heap.size, 0, none⟩), .int .i64 (m : Int), .slice (some ⟨w1.heap.size, 0, none⟩) m m, .agg #[.int .i64 (m : Int), .slice a zs.length c], .func (.func 41) #[] #[.pointer (some ⟨w2.heap.size + 1, 0, none⟩)], .int .i64 (x.1.1 : Int), .int .i64 (s : Int), .int .i64 (s : Int), .func (.func 43) #[] #[.pointer (some ⟨W.heap.size, 0, none⟩)], .int .i64 (y.1 : Int), undef, undef, undef, undef, undef, undef, undef], defers := [] })
      (fun _ _ _ _ _ _ hs _ _ => hs)
      ?assign2 ?body2 ?done2 ?stop2
    case assign2 =>
      rintro l2 us y W' K hi hK
      gi_wp2
      exact hK _ _ (KeepsFrom.refl _ _) (Below.refl _ _) hi rfl
    case body2 =>
      rintro l2 us y a'' W' _ _ ⟨hv, hBW, hKF⟩ rfl hul
      obtain ⟨u, hu⟩ := y
      obtain ⟨d, hd⟩ : ∃ d, d = (allMem (sets pre) ++ vals us).count u := ⟨_, rfl⟩
      have hd60 : d ≤ 60 := by
        have h1 := List.count_le_length (a := u) (l := allMem (sets pre) ++ vals us)
        simp only [List.length_append, vals_length] at h1
        omega
      have hcD := hv.box.cell
      obtain ⟨hcs, hfz⟩ := hv.cell u hu
      rw [degL_at _ _ _ hu, ← hd] at hcs
      have HS := Lib.hid (hv.set (by omega) u ((d : Int) + 1))
      have HV2 := Lib.hid hv
      have HB2 := Lib.hid hBW
      have HK2 := Lib.hid hKF
      have HD := Lib.hid hd
      clear hv hBW hKF hd
      gi_wp2
      refine ⟨(KeepsOthers.setCell _ _ _).from _, (Below.refl _ W').setCell (p := ⟨w1.heap.size, u, none⟩) (by show w.heap.size ≤ w1.heap.size; omega) _, ?_, HB2.out.setCell (p := ⟨w1.heap.size, u, none⟩) (by show w.heap.size ≤ w1.heap.size; omega) _, HK2.out.trans ((KeepsOthers.setCell _ _ _).from _)⟩
      rw [vals_snoc, ← List.append_assoc, degL_snoc, ← HD.out]
      exact HS.out
    case done2 =>
      rintro us W' hus ⟨hv, hBW, hKF⟩
      gi_wp2
      refine ⟨hKF, hBW, ?_, HBW.out.trans hBW⟩
      rw [sets_snoc, allMem_snoc, hs, Int.toNat_natCast, ← hus]
      exact hv
    case stop2 =>
      rintro c us W' _ h
      exact h.elim
  case done =>
    rintro D ys W hD hys ⟨hv, hB⟩ hK
    rw [sets_all hys] at hv
    have hc := hv.box.cell
    have HR := Lib.hid hv.row
    have HBW := Lib.hid hB
    clear hv hB
    gi_wp2
    refine ⟨by simp, .inl ⟨_, _, rfl, run_takeDeferred hK, ?_⟩⟩
    refine ⟨_, results_tmp2 rfl _ _ _, some ⟨w1.heap.size, 0, none⟩, m, by rw [degL_length]; rfl, ?_, HBW.out.trans (belowK_b (w := w) (Nat.le_refl _) W D _ _ (by have := HSO.out; omega) hK rfl rfl)⟩
    unfold OwnI
    rw [degL_length]
    exact ownsRow_base (ownsRow_putObj HR.out _ hK rfl) (Nat.le_refl _)
  case stop =>
    rintro D c pre W _ _ h _
    exact h.elim

end Go.Proofs.YtcnicdaagknmpaaDoor
