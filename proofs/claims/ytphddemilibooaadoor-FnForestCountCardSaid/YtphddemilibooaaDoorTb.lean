/- It is proved what the iterator over a family's clubs yields where each club is a set of members; conditions: those of each statement. -/
import Derived.Test.YtphddemilibooaaDoorRows
import Derived.WalkKit
import Derived.WalkSpells
import Derived.ProofKit
import Derived.OpenShut
import Derived.ShutString
import Derived.ChangeOld
import Derived.Below
import Derived.Deep.RegionHeld3
import Derived.Deep.QuietTactic
import Derived.BigQuiet
import Derived.Lib.Hide
import Derived.Lib.SmallJoins
import Derived.Outline
import Derived.Laws.MakeOwn
import Derived.Laws.OwnMore
import Derived.IntWalk
import Derived.RangeFuncNested
import Derived.RangeFuncBound
import Derived.RangeFuncCalls
import Derived.RangeFuncLeaves
import Derived.RangeFuncBox
import Derived.Shelf.Abstract
import Derived.Shelf.RegionOpen
import Derived.OwnWalkIn
import Derived.TacticsInMore
import Derived.LoopNIn
import Derived.LoopIn
import Derived.Maps.AppendAt
import Derived.Deep.AppendLies
import Derived.Shelf.Spec.TrailingZeros
import Derived.Test.YtphddemilibooaaDoorRaaa
import Derived.Test.YtphddemilibooaaDoorRaac
import Derived.Test.YtphddemilibooaaDoorRaab
import Derived.Test.YtphddemilibooaaDoorRaad
import Derived.Test.YtphddemilibooaaDoorRaaj
namespace Go
theorem wpListIn_make_fullD {F : Fence} {n : Nat} {P : Program} (w : World) {ops : Array Oper} {rest : List Oper} {o : Oper} {a : Act} {Q : Exit → Act → World → Prop}
    (hg : o.guard = none) (l c : Operand) (t : TypeId) (hop : o.op = Op.makeSlice t l c)
    (base : Nat) (e : TypeId) (i : TypeInfo) (z : Value) (size : Nat) (h1 : P.underlying t = some (.slice e)) (h2 : P.info? e = some i) (h3 : i.zero = some z) (h4 : i.size = size)
    (kl kc : IntKind) (m : Nat) (hl : a.eval l = .int kl (m : Int)) (hc : a.eval c = .int kc (m : Int)) (b2 : i.bytes * m ≤ 281474976710656) (b3 : m ≤ maxLen) (b4 : base ≤ w.heap.size)
    (hK : ∀ w', w'.ownsRow base e size (.slice (some ⟨w.heap.size, 0, none⟩) m m) m (madeCells z.cells (m * size)).toList → w.grownBy w' none → wpListIn F n P ops Q rest (a.put o.dst (.slice (some ⟨w.heap.size, 0, none⟩) m m)) w') :
    wpListIn F n P ops Q (o :: rest) a w := by
  refine wpListIn_plain hg fun K hK' => ?_
  obtain ⟨w', hrun, r1, r2⟩ := run_make_full (P := P) w base t e i z size h1 h2 h3 h4 kl kc m b2 b3 b4
  unfold Oper.wpIn
  refine ⟨?_, ?_⟩
  · simp [Oper.about, hop]
  · rw [Oper.semAt_plain F _ _ (by rw [hop]; intro c hc'; cases hc')]
    simp [execOp, hop, hl, hc, hrun, Result.andThen]
    exact hK' _ _ (hK w' r1 r2)

end Go
namespace Go.Proofs.YtphddemilibooaaDoor
open Go.RowKit Go.Shelf

attribute [local go_sem] Oper.semAt_some

set_option maxRecDepth 100000 in
set_option maxHeartbeats 2000000 in
theorem clubsP1_in (P : Nat × Int → Prop) (n : Nat) (hn : 1 ≤ n) (l Bs n₀ : Nat) (a : Option Addr) (c : Nat) (zs : List Int) (hlen : zs.length ≤ 1048576) (hP : ∀ k, k < zs.length → P (k, zs[k]?.getD 0)) (J Jx : List { p // P p } → World → Prop)
    (hY : ∀ pre x W, J pre W → pre.length < zs.length → YieldAt Fence.wide (n - 1) Tryd.prog l #[.int .i64 (x.1.1 : Int), .int .i64 x.1.2] W fun e W' =>
      (e = .returned (.bool true) ∧ J (pre ++ [x]) W' ∧ Below n₀ W W') ∨ (e = .returned (.bool false) ∧ Jx (pre ++ [x]) W'))
    (W : World) (hBs : W.cell? ⟨Bs, 1, none⟩ = some (.slice a zs.length c)) (hI : Ints W n₀ a zs) (h0 : J [] W) :
    CallsIn Fence.wide n Tryd.prog 63 #[.func (.yield l) #[] #[], .pointer (some ⟨Bs, 0, none⟩)] W fun e W' => (∃ v, e = .returned v) ∧
      ((∃ ys, ys.map (·.1) = pairs zs zs.length ∧ J ys W') ∨ (∃ pre, (∃ k, k ≤ zs.length ∧ pre.map (·.1) = pairs zs k) ∧ Jx pre W')) := by
  refine callsIn_of_wp Tryd.func63 rfl trivial ?_ rfl
  simp only [Tryd.ntmps63, List.size_toArray, List.length_cons, List.length_nil, Nat.reduceAdd, Nat.reduceSub, Array.replicate_succ, Array.replicate_zero, List.push_toArray, List.append_toArray, List.nil_append, List.cons_append]
  gi_wp2
  gi_loopw [8] (fun i wr => ∃ (k : Nat) (pre : List { p // P p }), k ≤ zs.length ∧ i = .int .i64 k ∧ pre.map (·.1) = pairs zs k ∧ J pre wr ∧ Below n₀ W wr)
    (fun i _ => zs.length - (intOf i).toNat)
  case atStart => exact ⟨0, [], Nat.zero_le _, rfl, rfl, h0, Below.refl _ _⟩
  case round =>
    obtain ⟨k, pre, hk, rfl, hpre, hJs, hnx⟩ := hrel
    by_cases hlt : k < zs.length
    · obtain ⟨b, off, rfl, hb, hc⟩ := hI.at_ hlt
      have hcx' : wr.cell? ⟨b, off + k, none⟩ = some (.int .i64 (zs[k]?.getD 0)) := (hnx.cell (p := ⟨b, off + k, none⟩) hb).trans hc
      have hpl : pre.length < zs.length := by have := congrArg List.length hpre; rw [List.length_map, pairs_length] at this; omega
      have hPk : P (k, zs[k]) := by have := hP k hlt; simpa [hlt] using this
      have hpre' : (pre ++ [(⟨(k, zs[k]), hPk⟩ : { p // P p })]).map (·.1) = pairs zs (k + 1) := by rw [List.map_append, hpre, pairs_succ' zs k hlt]; rfl
      obtain ⟨fn, tmps, assign, body, hy, hR⟩ := hY _ ⟨(k, zs[k]), hPk⟩ wr hJs hpl
      dsimp only at hy
      clear hpre
      gi_wp2
      refine hR.mono ?_
      rintro e W3 (⟨rfl, hJ3, hk3⟩ | ⟨rfl, hJx3⟩)
      · gi_wp2
        go_roundw
        case rel => exact ⟨k + 1, _, by omega, by simp, hpre', hJ3, hnx.trans hk3⟩
        case measure => simp [intOf]; omega
      · gi_wp2
        refine bodyPost_ret (results_none rfl _ _ _) rfl ?_
        exact ⟨⟨_, rfl⟩, .inr ⟨_, ⟨k + 1, by omega, hpre'⟩, hJx3⟩⟩
    · obtain rfl : k = zs.length := by omega
      gi_wp2
      go_end0
      exact ⟨⟨_, rfl⟩, .inl ⟨_, hpre, hJs⟩⟩

theorem clubsP_stops (P : Nat × Int → Prop) (n : Nat) (hn : 1 ≤ n) (Bs n₀ : Nat) (a : Option Addr) (c : Nat) (zs : List Int) (hlen : zs.length ≤ 1048576) (hP : ∀ k, k < zs.length → P (k, zs[k]?.getD 0)) (w : World) (hBs : Bs < w.heap.size) (hn₀ : n₀ ≤ w.heap.size)
    (hc : w.cell? ⟨Bs, 1, none⟩ = some (.slice a zs.length c)) (hI : Ints w n₀ a zs) :
    SeqStopsK Fence.wide n Tryd.prog 63 #[.pointer (some ⟨Bs, 0, none⟩)] (fun x : { p // P p } => #[Value.int .i64 (x.1.1 : Int), Value.int .i64 x.1.2]) (Below n₀) (fun ys => ys.map (·.1) = pairs zs zs.length)
      (fun pre => ∃ k, k ≤ zs.length ∧ pre.map (·.1) = pairs zs k) zs.length w := fun l J Jx W hW _ _ hY h0 =>
  clubsP1_in P n hn l Bs n₀ a c zs hlen hP J Jx hY W ((hW.cell (p := ⟨Bs, 1, none⟩) hBs).trans hc) (hI.below (hW.mono hn₀)) h0

/-- All members of some clubs, one club behind the other. -/
def allMem (zs : List Int) : List Nat := zs.flatMap fun z => mem z.toNat

theorem allMem_snoc (zs : List Int) (z : Int) : allMem (zs ++ [z]) = allMem zs ++ mem z.toNat := by simp [allMem]
theorem allMem_len (zs : List Int) (h : ∀ z ∈ zs, z.toNat < 64) : (allMem zs).length ≤ 6 * zs.length := by
  induction zs with
  | nil => simp [allMem]
  | cons z zs ih =>
    have h1 := mem_length z.toNat (h z (by simp))
    have h2 := ih (fun y hy => h y (by simp [hy]))
    simp only [allMem, List.flatMap_cons, List.length_append, List.length_cons] at h2 ⊢
    omega

/-- What the body of a loop over clubs knows of a club. -/
def IsClub (m : Nat) (p : Nat × Int) : Prop := p.1 < 8 ∧ 0 ≤ p.2 ∧ p.2.toNat < 2 ^ m

theorem IsClub.small {m : Nat} (hm : m ≤ 6) {p : Nat × Int} (h : IsClub m p) : p.2.toNat < 64 := Nat.lt_of_lt_of_le h.2.2 (Nat.pow_le_pow_right (by decide) hm : 2 ^ m ≤ 2 ^ 6)
theorem isClub_all {m : Nat} {zs : List Int} (h : famIn (m : Int) zs = true) : ∀ k, k < zs.length → IsClub m (k, zs[k]?.getD 0) := by
  obtain ⟨h1, h2, h3, h4⟩ := famIn_out h
  intro k hk
  have h5 := h4 zs[k] (List.getElem_mem _)
  have h6 : zs[k]?.getD 0 = zs[k] := by simp [hk]
  refine ⟨by show k < 8; omega, ?_, ?_⟩
  · show 0 ≤ zs[k]?.getD 0
    omega
  · show (zs[k]?.getD 0).toNat < 2 ^ m
    have h7 : fullI (m : Int) = ((2 ^ m : Nat) : Int) - 1 := by simp [fullI]
    rw [h6]
    omega

theorem clubs_snd {m : Nat} {zs : List Int} {ys : List { p // IsClub m p }} (h : ys.map (·.1) = pairs zs zs.length) : ys.map (·.1.2) = zs := by
  have := congrArg (List.map (·.2)) h
  rw [List.map_map, pairs_all] at this
  exact this

theorem clubs_len {m : Nat} (hm : m ≤ 6) (ys : List { p // IsClub m p }) : (allMem (ys.map (·.1.2))).length ≤ 6 * ys.length := by
  have := allMem_len (ys.map (·.1.2)) (by
    intro z hz
    obtain ⟨y, _, rfl⟩ := List.mem_map.1 hz
    exact y.2.small hm)
  simpa using this

/-- A row of m ints in block G, in a variable of its own in block D. -/
def RowBox (D G lo m : Nat) (row : List Int) (W : World) : Prop :=
  ∃ v, Boxed W D 23 v ∧ W.ownsRow lo 3 1 v m (row.map (Value.int .i64)) ∧ v = .slice (some ⟨G, 0, none⟩) m m

theorem RowBox.box {D G lo m : Nat} {row : List Int} {W : World} (h : RowBox D G lo m row W) : Boxed W D 23 (.slice (some ⟨G, 0, none⟩) m m) := by
  obtain ⟨v, h1, _, rfl⟩ := h; exact h1

theorem RowBox.row {D G lo m : Nat} {row : List Int} {W : World} (h : RowBox D G lo m row W) : W.ownsRow lo 3 1 (.slice (some ⟨G, 0, none⟩) m m) m (row.map (Value.int .i64)) := by
  obtain ⟨v, _, h1, rfl⟩ := h; exact h1

theorem RowBox.own {β : Type} (D G lo m : Nat) (f : β → List Int) : Own (fun s W => RowBox D G lo m (f s) W) :=
  holdsRow_own lo D 23 3 1 (fun (_ : β) => m) (fun s => (f s).map (Value.int .i64)) (fun (_ : β) v => v = .slice (some ⟨G, 0, none⟩) m m)

theorem RowBox.alloc {D G lo m : Nat} {row : List Int} {W : World} (h : RowBox D G lo m row W) (o : Obj) : RowBox D G lo m row (W.alloc o) :=
  ⟨_, h.box.alloc o, h.row.alloc o, rfl⟩

theorem RowBox.set {D G lo m : Nat} {row : List Int} {W : World} (h : RowBox D G lo m row W) (hne : D ≠ G) (k : Nat) (x : Int) : RowBox D G lo m (row.set k x) (W.setCell ⟨G, k, none⟩ (.int .i64 x)) := by
  refine ⟨_, HasBlk.far h.box hne _, ?_, rfl⟩
  have h1 := (World.ownsRow.stored h.row k (.int .i64 x)).1
  rw [← List.map_set] at h1
  exact h1

theorem RowBox.cell {D G lo m : Nat} {row : List Int} {W : World} (h : RowBox D G lo m row W) (k : Nat) (hk : k < m) : W.cell? ⟨G, k, none⟩ = some (.int .i64 (row[k]?.getD 0)) ∧ W.frozen? ⟨G, k, none⟩ = false := by
  refine ⟨?_, World.ownsRow.frozenAt h.row k⟩
  have hl : row.length = m := by have := h.row.1; simpa using this
  rw [World.ownsRow.cellAt h.row k (by omega), List.getElem?_map, List.getElem?_eq_getElem (by omega)]
  rfl

/-- The members behind their bound. -/
def vals {m : Nat} (us : List (Mem m)) : List Nat := us.map (·.1)

theorem vals_nil {m : Nat} : vals ([] : List (Mem m)) = [] := rfl
theorem vals_snoc {m : Nat} (us : List (Mem m)) (u : Mem m) : vals (us ++ [u]) = vals us ++ [u.1] := by simp [vals]
theorem vals_length {m : Nat} (us : List (Mem m)) : (vals us).length = us.length := by simp [vals]
/-- The clubs behind what is known of them. -/
def sets {m : Nat} (ys : List { p // IsClub m p }) : List Int := ys.map (·.1.2)

theorem sets_snoc {m : Nat} (ys : List { p // IsClub m p }) (y : { p // IsClub m p }) : sets (ys ++ [y]) = sets ys ++ [y.1.2] := by simp [sets]
theorem sets_all {m : Nat} {zs : List Int} {ys : List { p // IsClub m p }} (h : ys.map (·.1) = pairs zs zs.length) : sets ys = zs := clubs_snd h
theorem sets_len {m : Nat} (hm : m ≤ 6) (ys : List { p // IsClub m p }) : (allMem (sets ys)).length ≤ 6 * ys.length := clubs_len hm ys
end Go.Proofs.YtphddemilibooaaDoor
