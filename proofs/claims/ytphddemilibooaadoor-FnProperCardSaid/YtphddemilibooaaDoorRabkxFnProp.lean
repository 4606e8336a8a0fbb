/- It is proved what the palette of some colours is, and which numbers of colours may be told; conditions: those of each statement. -/
import Derived.RowKit
import Derived.Laws.CopyRow
import Derived.Lib.SlBuf
import Derived.Deep.QuietTactic
import Derived.RangeFuncNested
import Derived.RangeFuncBound
import Derived.RangeFuncCalls
import Derived.RangeFuncLeaves
import Derived.RangeFuncBox
import Derived.RangeFuncWrites
import Derived.StillTailTactics
import Derived.Maps.OwnIn
import Derived.Maps.Ext
import Derived.DeepKeys4
import Derived.MapKept
import Derived.Test.YtphddemilibooaaDoorRows
import Derived.WalkKit
import Derived.WalkSpells
import Derived.ProofKit
import Derived.OpenShut
import Derived.ShutString
import Derived.ChangeOld
import Derived.Below
import Derived.Deep.RegionHeld3
import Derived.BigQuiet
import Derived.Lib.Hide
import Derived.Lib.SmallJoins
import Derived.Outline
import Derived.Laws.MakeOwn
import Derived.Laws.OwnMore
import Derived.IntWalk
import Derived.Lib.AppendZeros
import Derived.Maps.AppendAt
import Derived.Deep.AppendLies
import Derived.OwnWalk
import Derived.Lib.SlicesCompact
import Derived.Lib.OwnBridge
import Derived.OrdersIn
import Derived.TacticsIn
import Derived.Shelf.Sort.Plain
import Derived.Shelf.Slices.In.SortNone
import Derived.Shelf.Slices.CompactI
import Derived.Ground.Names2Prog
import Derived.Lib.SliceRun
import Derived.Shelf.Abstract
import Derived.Shelf.RegionOpen
import Derived.OwnWalkIn
import Derived.TacticsInMore
import Derived.LoopNIn
import Derived.LoopIn
import Derived.StillTail
import Derived.StillTactics
import Derived.Shelf.Spec.TrailingZeros
import Derived.Test.YtphddemilibooaaDoorRabjxFnProp
import Derived.Test.YtphddemilibooaaDoorRaaa
import Derived.Test.YtphddemilibooaaDoorRaad
import Derived.Test.YtphddemilibooaaDoorRabhxFnProp
import Derived.Test.YtphddemilibooaaDoorKc
import Derived.Test.YtphddemilibooaaDoorRaal
import Derived.Sort.MapsRangeIn
import Derived.Deep.RegionLaw
import Derived.Deep.LoopGhost
import Derived.Test.YtphddemilibooaaDoorRaab
namespace Go.Proofs.YtphddemilibooaaDoor
open Go.RowKit Go.Shelf

/-- The palette, filled up to a place. -/
def palTo (k j : Nat) : List Int := (List.range k).map fun i => if i < j then (i : Int) else 0

theorem palTo_len (k j : Nat) : (palTo k j).length = k := by simp [palTo]
theorem palTo_zero (k : Nat) : palTo k 0 = List.replicate k 0 := by
  apply List.ext_getElem <;> simp [palTo]

theorem palTo_all (k : Nat) : palTo k k = palI k := by
  unfold palTo palI
  apply List.map_congr_left
  intro i hi
  rw [if_pos (List.mem_range.1 hi)]

theorem palTo_succ {k j : Nat} : palTo k (j + 1) = (palTo k j).set j (j : Int) := by
  apply List.ext_getElem
  · simp [palTo]
  · intro i h1 h2
    simp only [palTo, List.getElem_map, List.getElem_range, List.getElem_set]
    by_cases e : j = i
    · subst e; simp
    · rw [if_neg e]
      by_cases h : i < j
      · rw [if_pos h, if_pos (by omega)]
      · rw [if_neg h, if_neg (by omega)]

theorem under_ints : Tryd.prog.underlying 23 = some (.slice 3) := by kernel_rfl
theorem run_makeP (k : Nat) (hk : k ≤ 100) (w : World) : (Instr.makeSlice 23 (.int .i64 (k : Int)) (.int .i64 (k : Int))).run Tryd.prog w = .ok (.slice (some ⟨w.heap.size, 0, none⟩) k k) (w.alloc (.cells (Array.replicate k (.int .i64 0)) 3)) := by
  obtain ⟨i0, hi0, hz0, hz1, hz2⟩ := info_parts Tryd.info3
  have := run_make (P := Tryd.prog) w 23 3 i0 (.int .i64 0) under_ints hi0 hz0 .i64 .i64 (k : Int) (k : Int) (by omega) (Int.le_refl _) (by rw [hz2]; omega) (by omega)
  rw [this, hz1]
  have e : madeCells (Value.int .i64 0).cells ((k : Int).toNat * 1) = Array.replicate k (.int .i64 0) := by
    apply Array.toList_inj.1
    rw [show (Value.int .i64 0).cells = #[Value.int .i64 0] from rfl, toList_madeCells_one]; simp
  rw [e]; rfl

set_option maxRecDepth 100000 in
set_option maxHeartbeats 2000000 in
theorem numbered_any (k : Nat) (hk : k ≤ 100) (w : World) :
    Calls Tryd.prog 70 #[.int .i64 (k : Int)] w fun e w' => e = .returned (.slice (some ⟨w.heap.size, 0, none⟩) k k) ∧ Nums w' w.heap.size 3 (palI k) ∧ Below w.heap.size w w' ∧ w'.heap.size = w.heap.size + 1 := by
  have hmk := run_makeP k hk w
  obtain ⟨W1, hW1, q1, hb1⟩ : ∃ W1, w.alloc (.cells (Array.replicate k (.int .i64 0)) 3) = W1 ∧ Nums W1 w.heap.size 3 (palTo k 0) ∧ Below w.heap.size w W1 ∧ W1.heap.size = w.heap.size + 1 :=
    ⟨_, rfl, by
      rw [palTo_zero]
      have := alloc_new w (.cells (Array.replicate k (.int .i64 0)) 3)
      unfold Nums HasBlk iv
      simpa using this, below1 w _, by simp⟩
  rw [hW1] at hmk
  have H0 : Hid (Nums W1 w.heap.size 3 (palTo k 0) ∧ Below w.heap.size w W1 ∧ W1.heap.size = w.heap.size + 1) := Lib.hid ⟨q1, hb1⟩
  clear q1 hb1 hW1
  have hk0 : (0 : Int) ≤ (k : Int) := by omega
  have hk100 : (k : Int) ≤ 100 := by omega
  go_enter Tryd.func70, Tryd.ntmps70
  go_wp2
  clear hmk
  go_loopw [4, 9] (fun _ i wr => ∃ j : Nat, j ≤ k ∧ i = .int .i64 (j : Int) ∧ Hid (Nums wr w.heap.size 3 (palTo k j) ∧ Below w.heap.size w wr ∧ wr.heap.size = w.heap.size + 1)) (fun _ i _ => k - (intOf i).toNat)
  case atStart => exact ⟨0, Nat.zero_le _, rfl, H0⟩
  case round =>
    obtain ⟨j, hj, rfl, HS⟩ := hrel
    by_cases hlt : j < k
    · have hjk : (j : Int) < (k : Int) := by omega
      have hj0 : (0 : Int) ≤ (j : Int) := by omega
      have c1 := HS.out.1.cell j (by rw [palTo_len]; exact hlt)
      have f1 := HS.out.1.frozen j
      have HR : Hid (Nums (wr.setCell ⟨w.heap.size, j, none⟩ (.int .i64 (j : Int))) w.heap.size 3 (palTo k (j + 1)) ∧ Below w.heap.size w (wr.setCell ⟨w.heap.size, j, none⟩ (.int .i64 (j : Int))) ∧ (wr.setCell ⟨w.heap.size, j, none⟩ (.int .i64 (j : Int))).heap.size = w.heap.size + 1) := Lib.hid ⟨by rw [palTo_succ]; exact HS.out.1.set j _, HS.out.2.1.setCell (p := ⟨w.heap.size, j, none⟩) (Nat.le_refl _) _, by rw [World.size_setCell]; exact HS.out.2.2⟩
      clear H0
      go_wp2
      go_roundw
      case rel => exact ⟨j + 1, by omega, by go_num, HR⟩
      case measure => simp [intOf]; omega
    · obtain rfl : j = k := by omega
      have HR := HS.out
      rw [palTo_all] at HR
      have HRR := Lib.hid HR
      clear HR H0
      go_wp2
      go_ret
      exact ⟨rfl, HRR.out⟩

/-- A number of colours may be told. -/
def colIn (k least : Int) : Bool := decide (least ≤ k) && decide (k ≤ 4)

theorem coloursIn_any (k least : Int) (w : World) :
    Calls Tryd.prog 44 #[.int .i64 k, .int .i64 least] w fun e w' => e = .returned (.bool (colIn k least)) ∧ w = w' := by
  unfold colIn
  by_cases h1 : least ≤ k
  · by_cases h2 : k ≤ 4
    · rw [decide_eq_true h1, decide_eq_true h2]
      go_enter Tryd.func44, Tryd.ntmps44
      go_wp2
      go_ret
      exact ⟨rfl, rfl⟩
    · rw [decide_eq_true h1, decide_eq_false h2]
      go_enter Tryd.func44, Tryd.ntmps44
      go_wp2
      go_ret
      exact ⟨rfl, rfl⟩
  · rw [decide_eq_false h1]
    go_enter Tryd.func44, Tryd.ntmps44
    go_wp2
    go_ret
    exact ⟨rfl, rfl⟩

set_option maxRecDepth 100000 in
theorem coloured_any (m : Int) (a : Option Addr) (n c : Nat) (k : Int) (rf : Nat) (w : World) :
    Calls Tryd.prog 48 #[.agg #[.int .i64 m, .slice a n c], .int .i64 k, .func (.func rf) #[] #[]] w fun e w' => e = .returned (.func (.func 68) #[] #[.pointer (some ⟨w.heap.size, 0, none⟩), .pointer (some ⟨w.heap.size + 1, 0, none⟩), .pointer (some ⟨w.heap.size + 1 + 1, 0, none⟩)]) ∧
      w' = ((w.alloc (.cells #[.int .i64 m, .slice a n c] 25)).alloc (.cells #[.int .i64 k] 3)).alloc (.cells #[.func (.func rf) #[] #[]] 66) := by
  go_enter Tryd.func48, Tryd.ntmps48
  go_wp2
  go_ret
  exact ⟨rfl, rfl⟩

end Go.Proofs.YtphddemilibooaaDoor

/- It is proved what a loop over a function does where the function keeps cells of its own, and the body writes blocks that lay ahead of the loop and may leave it; conditions: those of each statement. -/
namespace Go
open Go.RowKit

/-- The contract of an iterator that may keep cells of its own: a round leaves every block but the loop's record and those that X names as it was. -/
def SeqBut {α : Type} (n : Nat) (P : Program) (g : Nat) (lb : Array Value) (encs : α → Array Value) (X : Nat → Prop) (Ok : α → World → Prop) (S Sp : List α → Prop) (N : Nat) (w : World) : Prop :=
  ∀ (l : Nat) (J Jx : List α → World → Prop) (W : World), Below w.heap.size w W → w.heap.size ≤ l → l < W.heap.size → (∀ k, X k → k < w.heap.size) → OwnAll W.heap.size J → OwnFrom W.heap.size Jx →
    (∀ pre x W1, J pre W1 → Ok x W1 → pre.length < N → YieldAt Fence.wide (n - 1) P l (encs x) W1 fun e W' =>
      (e = .returned (.bool true) ∧ J (pre ++ [x]) W' ∧ But (fun k => k = l ∨ X k) W1 W') ∨ (e = .returned (.bool false) ∧ Jx (pre ++ [x]) W' ∧ But (fun k => k = l ∨ X k) W1 W')) →
    J [] W →
    CallsIn Fence.wide n P g (#[.func (.yield l) #[] #[]] ++ lb) W fun e W' => (∃ v, e = .returned v) ∧ ((∃ xs, S xs ∧ J xs W') ∨ (∃ pre, Sp pre ∧ Jx pre W'))

/-- How a round ends. -/
def postBut {α : Type} (X : Nat → Prop) (I Ix : List α → World → Prop) (xs : List α) (W : World) : Exit → Act → World → Prop
  | .normal, _, W' => But X W W' ∧ I xs W'
  | .ret, _, W' => But X W W' ∧ Ix xs W'
  | _, _, _ => False

theorem OwnAll.alloc {β : Type} {B : Nat} {J : β → World → Prop} (h : OwnAll B J) {s : β} {W : World} (o : Obj) (hs : J s W) : J s (W.alloc o) := h _ _ _ none hs (World.grownBy_alloc _ _ _) (by simp)
theorem OwnAll.step {β : Type} {B : Nat} {J : β → World → Prop} (h : OwnAll B J) {s : β} {W W' : World} (hb : Below W.heap.size W W') (hs : J s W) : J s W' :=
  h _ _ _ none hs ⟨hb.os, hb.tape, hb.output, hb.size, fun k hk _ => hb.block k hk⟩ (by simp)

theorem OwnAll.cell {β : Type} {B : Nat} {J : β → World → Prop} (h : OwnAll B J) {s : β} {W : World} {b : Nat} (i : Nat) (v : Value) (hB : B ≤ b) (hs : J s W) : J s (W.setCell ⟨b, i, none⟩ v) :=
  h _ _ _ (some b) hs ⟨rfl, rfl, rfl, by simp, fun k _ hX => Below.heap_setCell W ⟨b, i, none⟩ v k (fun e => hX (by subst e; rfl))⟩ (fun r e => by cases e; exact hB)

theorem OwnAll.obj {β : Type} {B : Nat} {J : β → World → Prop} (h : OwnAll B J) {s : β} {W : World} {b : Nat} (o : Obj) (hB : B ≤ b) (hs : J s W) : J s (W.putObj b o) :=
  h _ _ _ (some b) hs (grownBy_putObj' W b o) (fun r e => by cases e; exact hB)

theorem wpIn_rangeFunc_but {P : Program} {n : Nat} {α : Type} {g : Operand} {ps : Array Tmp} {assign body : Code} {Q : Exit → Act → World → Prop} {a : Act} {w : World}
    (h1 : 1 ≤ n) {gf : Nat} {lb : Array Value} (hg : a.eval g = .func (.func gf) #[] lb) (eg : ∀ args w, (callFunc gf args).run P w = .ok (.enter gf args) w)
    {encs : α → Array Value} {X : Nat → Prop} {Ok : α → World → Prop} {S Sp : List α → Prop} {N : Nat} {w0 : World} (hseq : SeqBut (n - 1) P gf lb encs X Ok S Sp N w0) (hb0 : Below w0.heap.size w0 w) (hX : ∀ k, X k → k < w0.heap.size) (hps : ∀ x, (encs x).size = ps.size)
    (hOk : ∀ x A l o, Ok x A → (∃ o', A.heap[l]? = some o' ∧ o'.isCells = false) → Ok x (A.putObj l o))
    (I Ix : List α → World → Prop) (hI : OwnAll w.heap.size I) (hIx : OwnFrom w.heap.size Ix) (h0 : I [] w) (Ax : α → Act → World → Prop) (hAx : ∀ x a' A l o, Ax x a' A → (∃ o', A.heap[l]? = some o' ∧ o'.isCells = false) → Ax x a' (A.putObj l o))
    (hassign : ∀ (l : Nat) (pre : List α) (x : α) (W : World) (K : Act → World → Prop), I pre W → Ok x W → w.heap.size ≤ W.heap.size → (∀ a' W', But (fun _ => False) W W' → I pre W' → Ok x W' → Ax x a' W' → K a' W') →
      assign.wpIn (Fence.wide.inRound l) (n - 1 - 1) P (Exit.then K (fun _ _ _ => False)) { tmps := (ps.zip (encs x)).foldl (fun t (p, v) => t.setIfInBounds p v) a.tmps, defers := [] } W)
    (hbody : ∀ (l : Nat) (pre : List α) (x : α) (a' : Act) (W : World), w.heap.size ≤ l → I pre W → Ok x W → Ax x a' W → pre.length < N → body.wpIn (Fence.wide.inRound l) (n - 1 - 1) P (postBut X I Ix (pre ++ [x]) W) a' W)
    (hdone : ∀ (D : Nat) (xs : List α) (W : World), w.heap.size ≤ D → S xs → I xs W → W.heap[D]? = some (.deferred (some [])) → Q .normal { a with defers := { target := .collected D, args := #[] } :: a.defers } W)
    (hstop : ∀ (D : Nat) (pre : List α) (W : World), w.heap.size ≤ D → Sp pre → Ix pre W → W.heap[D]? = some (.deferred (some [])) → Code.ret.wpIn Fence.wide n P Q { a with defers := { target := .collected D, args := #[] } :: a.defers } W) :
    (Code.rangeFunc g ps assign body).wpIn Fence.wide n P Q a w := by
  refine wpIn_rangeFunc ?_
  intro fn hfn
  rw [show Fence.wide.round = none from rfl]
  obtain ⟨rec, hrec⟩ : ∃ rec : LoopState → Option Code → Loop, rec = fun st pe => { state := st, pending := pe, fn, tmps := a.tmps, params := ps, assign, body, defers := w.heap.size } := ⟨_, rfl⟩
  obtain ⟨W1, hW1⟩ : ∃ W1, (w.alloc (.deferred (some []))).alloc (.loop (rec .ready none)) = W1 := ⟨_, rfl⟩
  have hs1 : W1.heap.size = w.heap.size + 2 := by rw [← hW1]; simp
  have hL1 : W1.heap[w.heap.size + 1]? = some (.loop (rec .ready none)) := by
    rw [← hW1]; have := World.alloc_heap_new (w.alloc (.deferred (some []))) (.loop (rec .ready none)); rwa [World.size_alloc] at this
  have hK1 : W1.heap[w.heap.size]? = some (.deferred (some [])) := by
    rw [← hW1]; exact (Below.heap_alloc _ _ _ (by simp)).trans (World.alloc_heap_new w _)
  have hI1 : I [] W1 := by rw [← hW1]; exact hI.alloc _ (hI.alloc _ h0)
  have hb1 : Below w0.heap.size w0 W1 := by
    rw [← hW1]; exact hb0.trans ((((Below.refl _ w).alloc (Nat.le_refl _) _).alloc (by simp) _).mono hb0.size)
  have hXw : ∀ k, X k → k < w.heap.size := fun k h => Nat.lt_of_lt_of_le (hX k h) hb0.size
  have hX1 : ¬ X (w.heap.size + 1) := fun h => by have := hXw _ h; omega
  have hX2 : ¬ X w.heap.size := fun h => by have := hXw _ h; omega
  have hput : ∀ (xs : List α) (W : World) (o : Obj), I xs W → I xs (W.putObj (w.heap.size + 1) o) := fun xs W o h => hI.obj o (by omega) h
  have hputx : ∀ (xs : List α) (W : World) (o : Obj), (∃ r, W.heap[w.heap.size + 1]? = some (.loop r)) → Ix xs W → Ix xs (W.putObj (w.heap.size + 1) o) := fun xs W o ⟨r, hr⟩ h => hIx.putObj o h (by omega) hr rfl
  refine ⟨w.heap.size + 1, [{ target := .collected w.heap.size, args := #[] }], W1, { target := .fn (.func gf) lb, args := #[.func (.yield (w.heap.size + 1)) #[] #[]] }, W1, gf,
    #[.func (.yield (w.heap.size + 1)) #[] #[]] ++ lb, W1, ?_, ?_, fun _ _ => trivial, ?_, fun _ => h1, ?_⟩
  · rw [← hW1, hrec]; exact run_enterLoop_outer _ _ _ _ _
  · simp only [resolve, hg]
    simp [go_sem]
  · simp [invoke, go_sem, eg]
  · refine (hseq (w.heap.size + 1) (fun pre W => I pre W ∧ w.heap.size + 2 ≤ W.heap.size ∧ W.heap[w.heap.size + 1]? = some (.loop (rec .ready none)) ∧ W.heap[w.heap.size]? = some (.deferred (some [])))
      (fun pre W => Ix pre W ∧ W.heap[w.heap.size + 1]? = some (.loop (rec .done (some .ret))) ∧ W.heap[w.heap.size]? = some (.deferred (some []))) W1 hb1 (by have := hb0.size; omega) (by omega) hX ?_ ?_ ?_ ⟨hI1, by omega, hL1, hK1⟩).mono ?_
    · rintro s A C row ⟨hi, hsz, hl, hk⟩ hgr hr
      have hne : ∀ k, k < w.heap.size + 2 → some k ≠ row := fun k hk' e => by have := hr k e.symm; omega
      exact ⟨hI s A C row hi hgr (fun r e => by have := hr r e; omega), Nat.le_trans hsz hgr.size, (hgr.block _ (Array.getElem?_eq_some_iff.1 hl).1 (hne _ (by omega))).trans hl, (hgr.block _ (Array.getElem?_eq_some_iff.1 hk).1 (hne _ (by omega))).trans hk⟩
    · rintro s A C row ⟨hi, hl, hk⟩ hgr hr
      have hne : ∀ k, k < w.heap.size + 2 → some k ≠ row := fun k hk' e => by have := (hr k e.symm).1; omega
      exact ⟨hIx s A C row hi hgr (fun r e => ⟨by have := (hr r e).1; omega, (hr r e).2⟩), (hgr.block _ (Array.getElem?_eq_some_iff.1 hl).1 (hne _ (by omega))).trans hl, (hgr.block _ (Array.getElem?_eq_some_iff.1 hk).1 (hne _ (by omega))).trans hk⟩
    · rintro pre x Wb ⟨hib, hsz, hlb, hkb⟩ hokb hlen
      have hy := run_yield (P := P) (args := encs x) hlb (by rw [hrec]; exact hps x)
      rw [hrec] at hy
      refine ⟨fn, _, assign, body, hy, roundIn_of_wpIn hfn (hassign _ pre x Wb _ hib hokb (by omega) ?_)⟩
      clear hy
      intro a' W hbt hi hok hax
      have hl := hbt.keep (k := w.heap.size + 1) (fun e => e) hlb
      have hk := hbt.keep (k := w.heap.size) (fun e => e) hkb
      have hlt : w.heap.size + 1 < W.heap.size := (Array.getElem?_eq_some_iff.1 hl).1
      refine ⟨_, run_beginRound hl (by rw [hrec]), ?_⟩
      have hok2 : Ok x (W.putObj (w.heap.size + 1) (.loop { rec .ready none with state := .busy })) := hOk _ _ _ _ hok ⟨_, hl, rfl⟩
      have hax2 : Ax x a' (W.putObj (w.heap.size + 1) (.loop { rec .ready none with state := .busy })) := hAx _ _ _ _ _ hax ⟨_, hl, rfl⟩
      have hl2 : (W.putObj (w.heap.size + 1) (.loop { rec .ready none with state := .busy })).heap[w.heap.size + 1]? = some (.loop { rec .ready none with state := .busy }) := World.putObj_heap_same hlt
      have hk2 : (W.putObj (w.heap.size + 1) (.loop { rec .ready none with state := .busy })).heap[w.heap.size]? = some (.deferred (some [])) := (World.putObj_heap_other (by omega)).trans hk
      refine wpIn_mono (hbody _ pre x a' _ (by omega) (hput _ _ _ hi) hok2 hax2 hlen) ?_
      have hbW : But (fun k => k = w.heap.size + 1 ∨ X k) Wb W := hbt.mono (fun k _ e => e.elim)
      rintro e a3 W3 hp
      cases e with
      | normal =>
        obtain ⟨hk3, hi3⟩ := hp
        have hl3 := hk3.keep hX1 hl2
        have hr := run_endRound (P := P) none hl3
        have hb4 : But (fun k => k = w.heap.size + 1 ∨ X k) Wb (W3.putObj (w.heap.size + 1) (.loop (rec .ready none))) :=
          ((hbW.trans (But.putObj W _ _ (.inl rfl))).trans (hk3.mono (fun k _ e => .inr e))).trans (But.putObj W3 _ _ (.inl rfl))
        have hs3 := hk3.size
        rw [hrec] at hr hb4 ⊢
        refine ⟨_, _, hr, .inl ⟨rfl, ⟨hput _ _ _ hi3, by simp at hs3; simp; omega, World.putObj_heap_same (Array.getElem?_eq_some_iff.1 hl3).1, (World.putObj_heap_other (by omega)).trans (hk3.keep hX2 hk2)⟩, hb4⟩⟩
      | ret =>
        obtain ⟨hk3, hi3⟩ := hp
        have hl3 := hk3.keep hX1 hl2
        have hr := run_endRound (P := P) (some .ret) hl3
        have hb4 : But (fun k => k = w.heap.size + 1 ∨ X k) Wb (W3.putObj (w.heap.size + 1) (.loop (rec .done (some .ret)))) :=
          ((hbW.trans (But.putObj W _ _ (.inl rfl))).trans (hk3.mono (fun k _ e => .inr e))).trans (But.putObj W3 _ _ (.inl rfl))
        rw [hrec] at hr hb4 ⊢
        refine ⟨_, _, hr, .inr ⟨rfl, ⟨hputx _ _ _ ⟨_, hl3⟩ hi3, World.putObj_heap_same (Array.getElem?_eq_some_iff.1 hl3).1, (World.putObj_heap_other (by omega)).trans (hk3.keep hX2 hk2)⟩, hb4⟩⟩
      | _ => exact hp.elim
    · rintro e W2 ⟨⟨v, rfl⟩, (⟨xs, hS, hi, -, hl, hk⟩ | ⟨pre, hSp, hi, hl, hk⟩)⟩
      · refine ⟨none, _, by have := run_endLoop (P := P) hl (by rw [hrec]; simp); rw [hrec] at this; exact this, ?_⟩
        exact hdone _ xs _ (Nat.le_refl _) hS (hput _ _ _ hi) ((World.putObj_heap_other (by omega)).trans hk)
      · refine ⟨some .ret, _, by have := run_endLoop (P := P) hl (by rw [hrec]; simp); rw [hrec] at this; exact this, ?_⟩
        exact hstop _ pre _ (Nat.le_refl _) hSp (hputx _ _ _ ⟨_, hl⟩ hi) ((World.putObj_heap_other (by omega)).trans hk)

end Go

/- It is proved that what is left of a forest, links left out, is a forest, and that forests fall apart; conditions: those of each statement. -/
namespace Go.Proofs.YtphddemilibooaaDoor
open Go.RowKit

/-- Each link is a bridge: without it, both its ends are apart. -/
def Br (b : Nat → Nat → Prop) : Prop := ∀ j v, b j v → ∃ CM CJ : Nat → Prop, (∀ j' v', ¬ (j' = j ∧ v' = v) → b j' v' → (CM v' ↔ CJ j')) ∧ ¬ (CM v ↔ CJ j)

theorem Br.mono {b b' : Nat → Nat → Prop} (h : Br b) (f g : Nat → Nat) (hb : ∀ j v, b' j v → b (f j) (g v)) (hi : ∀ j v j' v', b' j v → b' j' v' → f j' = f j → g v' = g v → j' = j ∧ v' = v) : Br b' := fun j v hjv => by
  obtain ⟨CM, CJ, h1, h2⟩ := h (f j) (g v) (hb j v hjv)
  exact ⟨fun v => CM (g v), fun j => CJ (f j), fun j' v' hne hb' => h1 _ _ (fun e => hne (hi j v j' v' hjv hb' e.1 e.2)) (hb j' v' hb'), h2⟩

theorem Br.dual {b : Nat → Nat → Prop} (h : Br b) : Br fun v j => b j v := fun v j hjv => by
  obtain ⟨CM, CJ, h1, h2⟩ := h j v hjv
  exact ⟨CJ, CM, fun j' v' hne hb' => (h1 _ _ (fun e => hne ⟨e.2, e.1⟩) hb').symm, fun e => h2 e.symm⟩

end Go.Proofs.YtphddemilibooaaDoor
