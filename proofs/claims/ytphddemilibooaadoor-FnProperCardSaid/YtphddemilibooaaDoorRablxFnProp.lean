/- It is proved what the function yields that goes on with colours; conditions: those of each statement. -/
import Derived.RowKit
import Derived.Laws.CopyRow
import Derived.Lib.SlBuf
import Derived.RangeFuncNested
import Derived.RangeFuncBound
import Derived.RangeFuncCalls
import Derived.RangeFuncLeaves
import Derived.RangeFuncBox
import Derived.RangeFuncWrites
import Derived.Test.YtphddemilibooaaDoorRows
import Derived.WalkKit
import Derived.WalkSpells
import Derived.ProofKit
import Derived.OpenShut
import Derived.ShutString
import Derived.ChangeOld
import Derived.Below
import Derived.Deep.RegionHeld3
import Derived.Deep.QuietTactic
import Derived.BigQuiet
import Derived.Lib.Hide
import Derived.Lib.SmallJoins
import Derived.Outline
import Derived.Laws.MakeOwn
import Derived.Laws.OwnMore
import Derived.IntWalk
import Derived.Shelf.Abstract
import Derived.Shelf.RegionOpen
import Derived.OwnWalkIn
import Derived.TacticsInMore
import Derived.LoopNIn
import Derived.LoopIn
import Derived.Maps.AppendAt
import Derived.Deep.AppendLies
import Derived.OwnWalk
import Derived.Shelf.Spec.TrailingZeros
import Derived.Test.YtphddemilibooaaDoorRaal
import Derived.Test.YtphddemilibooaaDoorRaaa
import Derived.Test.YtphddemilibooaaDoorRaab
import Derived.Test.YtphddemilibooaaDoorRabkxFnProp
import Derived.Test.YtphddemilibooaaDoorRabhxFnProp
import Derived.StillTailTactics
import Derived.StillTail
import Derived.StillTactics
import Derived.OrdersIn
import Derived.TacticsIn
import Derived.Test.YtphddemilibooaaDoorRaas
import Derived.Maps.OwnIn
import Derived.Maps.Ext
import Derived.DeepKeys4
import Derived.MapKept
import Derived.Deep.RegionLaw
import Derived.Lib.AppendZeros
import Derived.Lib.SlicesCompact
import Derived.Lib.OwnBridge
import Derived.Shelf.Sort.Plain
import Derived.Shelf.Slices.In.SortNone
import Derived.Shelf.Slices.CompactI
import Derived.Ground.Names2Prog
import Derived.Lib.SliceRun
import Derived.Deep.LoopGhost
import Derived.Test.YtphddemilibooaaDoorRabjxFnProp
import Derived.Test.YtphddemilibooaaDoorKc
import Derived.Test.YtphddemilibooaaDoorRaaz
import Derived.Test.YtphddemilibooaaDoorRaaj
namespace Go.Proofs.YtphddemilibooaaDoor
open Go.RowKit Go.Shelf

attribute [local go_sem] Oper.semAt_some

/-- What the colours found so far are kept in. -/
structure CS (Bm By Bd Bp Bg Br pb pc l m b : Nat) (pal : List Int) (W : World) (p : List Int) : Prop where
  bm : Boxed W Bm 3 (.int .i64 (m : Int))
  y : Boxed W By 80 (.func (.yield l) #[] #[])
  d : Boxed W Bd 67 (.slice (some ⟨Br, 0, none⟩) m m)
  q : Boxed W Bp 23 (.slice (some ⟨pb, 0, none⟩) pal.length pc)
  g : Boxed W Bg 56 (.func (.func 84) #[] #[.pointer (some ⟨Bm, 0, none⟩), .pointer (some ⟨By, 0, none⟩), .pointer (some ⟨Bd, 0, none⟩), .pointer (some ⟨Bp, 0, none⟩), .pointer (some ⟨Bg, 0, none⟩)])
  r : ∃ R : List Int, R.length = m ∧ R.take p.length = p ∧ HasBlk W Br (R.map (Value.int .i64)).toArray 3
  v : pb < b ∧ ∀ j, j < pal.length → W.cell? ⟨pb, j, none⟩ = some ((Value.int .i64) (pal[j]?.getD 0))

/-- Where they lie. -/
structure CLies (Bm By Bd Bp Bg Br pb l b n₁ : Nat) (X : Nat → Prop) : Prop where
  l2 : l < n₁
  x2 : ∀ k, X k → k < b
  lb : b ≤ l
  mb : Bm < b
  qb : Bp < b
  qpb : pb < b
  mx : ¬ X Bm
  qx : ¬ X Bp
  px : ¬ X pb
  y : n₁ ≤ By
  d : n₁ ≤ Bd
  g : n₁ ≤ Bg
  r : n₁ ≤ Br
  yr : By ≠ Br
  dr : Bd ≠ Br
  gr : Bg ≠ Br

theorem CLies.not {Bm By Bd Bp Bg Br pb l b n₁ : Nat} {X : Nat → Prop} (L : CLies Bm By Bd Bp Bg Br pb l b n₁ X) : ∀ k, n₁ ≤ k → ¬ (k = l ∨ X k) := fun k hk h => by
  have := L.l2; have := L.lb
  rcases h with h | h
  · omega
  · have := L.x2 k h; omega

theorem CLies.old {Bm By Bd Bp Bg Br pb l b n₁ : Nat} {X : Nat → Prop} (L : CLies Bm By Bd Bp Bg Br pb l b n₁ X) {k : Nat} (hk : k < b) (hx : ¬ X k) : ¬ (k = l ∨ X k) := fun h => by
  have := L.lb
  rcases h with h | h
  · omega
  · exact hx h

theorem CS.but {Bm By Bd Bp Bg Br pb l m b n₁ pc : Nat} {pal : List Int} {X : Nat → Prop} {W W' : World} {p : List Int} (h : CS Bm By Bd Bp Bg Br pb pc l m b pal W p) (L : CLies Bm By Bd Bp Bg Br pb l b n₁ X)
    (hb : But (fun k => k = l ∨ X k) W W') : CS Bm By Bd Bp Bg Br pb pc l m b pal W' p := by
  obtain ⟨R, hR1, hR2, hR3⟩ := h.r
  refine ⟨hb.keep (L.old L.mb L.mx) h.bm, hb.keep (L.not _ L.y) h.y, hb.keep (L.not _ L.d) h.d, hb.keep (L.old L.qb L.qx) h.q, hb.keep (L.not _ L.g) h.g, ⟨R, hR1, hR2, hb.keep (L.not _ L.r) hR3⟩, h.v.1, fun j hj => ?_⟩
  have hc := h.v.2 j hj
  have hk : pb < W.heap.size := by
    by_cases hkk : pb < W.heap.size
    · exact hkk
    · rw [World.cell?, Array.getElem?_eq_none (show W.heap.size ≤ pb by omega)] at hc
      cases hc
  exact (World.cell?_of_block (hb.same pb hk (L.old L.qpb L.px))).trans hc

/-- The blocks that may turn. -/
def XC (Br l : Nat) (X : Nat → Prop) : Nat → Prop := fun k => k = l ∨ X k ∨ k = Br

/-- What a round finds of what it is handed. -/
def OkV (m : Nat) (x : Value × List Int) (W : World) : Prop := x.2.length = m ∧ ∃ a, x.1 = .slice a m m ∧ Ints W W.heap.size a x.2

theorem CS.ok {Bm By Bd Bp Bg Br pb l m b pc : Nat} {pal : List Int} {W : World} {p : List Int} (h : CS Bm By Bd Bp Bg Br pb pc l m b pal W p) (hp : p.length = m) : OkV m (.slice (some ⟨Br, 0, none⟩) m m, p) W := by
  obtain ⟨R, hR1, hR2, hR3⟩ := h.r
  refine ⟨hp, _, rfl, .inr ⟨Br, 0, rfl, lt_of_some hR3, fun j hj => ?_⟩⟩
  dsimp only at hj ⊢
  have : R = p := by rw [← hR2, hp, ← hR1, List.take_length]
  rw [Nat.zero_add, blk_cell hR3 j, ← this]
  have hjR : j < R.length := by omega
  simp [hjR]

set_option maxRecDepth 100000 in
set_option maxHeartbeats 2000000 in
theorem colGo0 (Bm By Bd Bp Bg Br pb l m b n₁ pc N : Nat) (pal : List Int) (X : Nat → Prop) (L : CLies Bm By Bd Bp Bg Br pb l b n₁ X) (J Jx : List (Value × List Int) → World → Prop)
    (hY : ∀ k pre x W1, J pre W1 → OkV m x W1 → pre.length < N → YieldAt Fence.wide k Tryd.prog l #[x.1] W1 fun e W' => (e = .returned (.bool true) ∧ J (pre ++ [x]) W' ∧ But (fun k => k = l ∨ X k) W1 W') ∨ (e = .returned (.bool false) ∧ Jx (pre ++ [x]) W' ∧ But (fun k => k = l ∨ X k) W1 W'))
    (p : List Int) (hp : p.length = m) (pre : List (Value × List Int)) (hpN : pre.length < N) (W : World) (h0 : J pre W) (hO : CS Bm By Bd Bp Bg Br pb pc l m b pal W p) :
    Calls Tryd.prog 84 #[.int .i64 (m : Int), .pointer (some ⟨Bm, 0, none⟩), .pointer (some ⟨By, 0, none⟩), .pointer (some ⟨Bd, 0, none⟩), .pointer (some ⟨Bp, 0, none⟩), .pointer (some ⟨Bg, 0, none⟩)] W fun e W' =>
      (e = .returned (.bool true) ∧ (∃ xs : List (Value × List Int), xs.map (·.2) = [p] ∧ J (pre ++ xs) W') ∧ CS Bm By Bd Bp Bg Br pb pc l m b pal W' p ∧ But (XC Br l X) W W') ∨
      (e = .returned (.bool false) ∧ (∃ xs : List (Value × List Int), xs.map (·.2) <+: [p] ∧ xs ≠ [] ∧ Jx (pre ++ xs) W') ∧ But (XC Br l X) W W') := by
  obtain ⟨fn, tmps, assign, body, hy, hR⟩ := hY 5 pre (.slice (some ⟨Br, 0, none⟩) m m, p) _ h0 (hO.ok hp) hpN
  dsimp only at hy
  have cm := hO.bm.cell
  have cy := hO.y.cell
  have cd := hO.d.cell
  have HO := Lib.hid hO
  have HL := Lib.hid L
  have hbm : ∀ A B : World, But (fun k => k = l ∨ X k) A B → But (XC Br l X) A B := fun _ _ h => h.mono (fun k _ e => by unfold XC; rcases e with e | e <;> simp [e])
  have HBM := Lib.hid hbm
  clear h0 hY hO L hp hbm
  refine (callsIn_wide (n := 6)).1 ?_
  refine callsIn_of_wp Tryd.func84 rfl trivial ?_ rfl
  simp only [Tryd.ntmps84, List.size_toArray, List.length_cons, List.length_nil, Nat.reduceAdd, Nat.reduceSub, Array.replicate_succ, Array.replicate_zero, List.push_toArray, List.append_toArray, List.nil_append, List.cons_append]
  gi_wp2
  refine hR.mono ?_
  rintro e W3 (⟨rfl, hJ3, hb3⟩ | ⟨rfl, hJ3, hb3⟩)
  · have HJ3 := Lib.hid hJ3
    have HB3 := Lib.hid hb3
    clear hJ3 hb3
    gi_wp2
    refine bodyPost_ret (v := .bool true) (by simp [results, Tryd.results84, go_sem]) rfl ?_
    exact .inl ⟨rfl, ⟨[(.slice (some ⟨Br, 0, none⟩) m m, p)], rfl, HJ3.out⟩, HO.out.but HL.out HB3.out, HBM.out _ _ HB3.out⟩
  · have HJ3 := Lib.hid hJ3
    have HB3 := Lib.hid hb3
    clear hJ3 hb3
    gi_wp2
    refine bodyPost_ret (v := .bool false) (by simp [results, Tryd.results84, go_sem]) rfl ?_
    exact .inr ⟨rfl, ⟨[(.slice (some ⟨Br, 0, none⟩) m m, p)], List.prefix_refl _, by simp, HJ3.out⟩, HBM.out _ _ HB3.out⟩

/-- A colour is put behind those so far. -/
theorem put_col {Bm By Bd Bp Bg Br pb l m b n₁ pc : Nat} {pal : List Int} {X : Nat → Prop} (L : CLies Bm By Bd Bp Bg Br pb l b n₁ X) (hbn : b ≤ n₁) {W : World} {p : List Int} (hO : CS Bm By Bd Bp Bg Br pb pc l m b pal W p) (hp : p.length < m) (v : Int) :
    CS Bm By Bd Bp Bg Br pb pc l m b pal (W.setCell ⟨Br, p.length, none⟩ ((Value.int .i64) (v))) (p ++ [v]) ∧ But (XC Br l X) W (W.setCell ⟨Br, p.length, none⟩ ((Value.int .i64) (v))) := by
  obtain ⟨R, hR1, hR2, hR3⟩ := hO.r
  have hr := L.r; have hmb := L.mb; have hqb := L.qb; have hpb := L.qpb
  have hset := heap_setCell_same W Br p.length _ 3 ((Value.int .i64) (v)) hR3
  refine ⟨⟨HasBlk.far hO.bm (show Bm ≠ Br by omega) _, HasBlk.far hO.y (show By ≠ Br from L.yr) _, HasBlk.far hO.d (show Bd ≠ Br from L.dr) _, HasBlk.far hO.q (show Bp ≠ Br by omega) _, HasBlk.far hO.g (show Bg ≠ Br from L.gr) _, ⟨R.set p.length v, by rw [List.length_set, hR1], ?_, ?_⟩, hO.v.1, fun j hj => ?_⟩, But.setCell _ _ _ _ (fun _ => .inr (.inr rfl))⟩
  · rw [List.length_append, List.length_singleton, List.take_succ_eq_append_getElem (by rw [List.length_set]; omega), List.take_set_of_le (Nat.le_refl _), hR2]
    simp
  · unfold HasBlk
    rw [hset]
    simp [List.map_set]
  · rw [World.cell?_of_block (Below.heap_setCell W ⟨Br, p.length, none⟩ _ pb (show pb ≠ Br by omega))]
    exact hO.v.2 j hj

theorem CS.cut {Bm By Bd Bp Bg Br pb l m b pc : Nat} {pal : List Int} {W : World} {p : List Int} {v : Int} (hO : CS Bm By Bd Bp Bg Br pb pc l m b pal W (p ++ [v])) : CS Bm By Bd Bp Bg Br pb pc l m b pal W p := by
  obtain ⟨R, hR1, hR2, hR3⟩ := hO.r
  refine ⟨hO.bm, hO.y, hO.d, hO.q, hO.g, ⟨R, hR1, ?_, hR3⟩, hO.v⟩
  have := congrArg (List.take p.length) hR2
  rw [List.take_take, List.length_append, Nat.min_eq_left (by simp), List.take_left] at this
  exact this

/-- What is yielded ahead of the colour j. -/
def wordsTo (pal : List Int) (k : Nat) (p : List Int) (j : Nat) : List (List Int) := (pal.take j).flatMap fun c => (wordsL pal k).map fun u => p ++ c :: u

theorem wordsTo_succ (pal : List Int) (k : Nat) (p : List Int) {j : Nat} (h : j < pal.length) : wordsTo pal k p (j + 1) = wordsTo pal k p j ++ (wordsL pal k).map ((p ++ [pal[j]?.getD 0]) ++ ·) := by
  unfold wordsTo
  rw [List.take_succ_eq_append_getElem h, List.flatMap_append]
  simp [h]

theorem wordsTo_all (pal : List Int) (k : Nat) (p : List Int) : wordsTo pal k p pal.length = (wordsL pal (k + 1)).map (p ++ ·) := by
  unfold wordsTo
  rw [List.take_length, wordsL, List.map_flatMap]
  congr 1
  funext c
  rw [List.map_map]
  rfl

theorem wordsTo_len (pal : List Int) (k : Nat) (p : List Int) {j : Nat} (h : j ≤ pal.length) : (wordsTo pal k p j).length = j * pal.length ^ k := by
  have : ∀ l : List Int, (l.flatMap fun c => (wordsL pal k).map fun u => p ++ c :: u).length = l.length * pal.length ^ k := by
    intro l
    induction l with
    | nil => simp
    | cons c l ih => rw [List.flatMap_cons, List.length_append, ih, List.length_map, wordsL_card pal k, List.length_cons, Nat.succ_mul, Nat.add_comm]
  unfold wordsTo
  rw [this, List.length_take, Nat.min_eq_left h]

theorem wordsTo_pre (pal : List Int) (k : Nat) (p : List Int) {j : Nat} (h : j < pal.length) {xs ys : List (List Int)} (hx : xs = wordsTo pal k p j) (hy : ys <+: (wordsL pal k).map ((p ++ [pal[j]?.getD 0]) ++ ·)) : xs ++ ys <+: (wordsL pal (k + 1)).map (p ++ ·) := by
  obtain ⟨r, hr⟩ := hy
  have h1 : xs ++ ys ++ r = wordsTo pal k p (j + 1) := by rw [wordsTo_succ pal k p h, ← hr, hx, List.append_assoc]
  have h2 : wordsTo pal k p (j + 1) <+: wordsTo pal k p pal.length := by
    unfold wordsTo
    rw [List.take_length]
    refine ⟨(pal.drop (j + 1)).flatMap fun c => (wordsL pal k).map fun u => p ++ c :: u, ?_⟩
    rw [← List.flatMap_append, List.take_append_drop]
  rw [← wordsTo_all]
  exact List.IsPrefix.trans ⟨r, h1⟩ h2

set_option maxRecDepth 100000 in
set_option maxHeartbeats 4000000 in
theorem colGo (Bm By Bd Bp Bg Br pb l m b n₁ pc N : Nat) (hm : m ≤ 6) (pal : List Int) (hpl : pal.length ≤ 6) (X : Nat → Prop) (L : CLies Bm By Bd Bp Bg Br pb l b n₁ X) (hbn : b ≤ n₁) (J Jx : List (Value × List Int) → World → Prop) (hJ : OwnAll n₁ J)
    (hY : ∀ k pre x W1, J pre W1 → OkV m x W1 → pre.length < N → YieldAt Fence.wide k Tryd.prog l #[x.1] W1 fun e W' => (e = .returned (.bool true) ∧ J (pre ++ [x]) W' ∧ But (fun k => k = l ∨ X k) W1 W') ∨ (e = .returned (.bool false) ∧ Jx (pre ++ [x]) W' ∧ But (fun k => k = l ∨ X k) W1 W')) :
    ∀ (k : Nat) (p : List Int) (pre : List (Value × List Int)) (W : World), p.length + k = m → pre.length + pal.length ^ k ≤ N → J pre W → CS Bm By Bd Bp Bg Br pb pc l m b pal W p →
    Calls Tryd.prog 84 #[.int .i64 (p.length : Int), .pointer (some ⟨Bm, 0, none⟩), .pointer (some ⟨By, 0, none⟩), .pointer (some ⟨Bd, 0, none⟩), .pointer (some ⟨Bp, 0, none⟩), .pointer (some ⟨Bg, 0, none⟩)] W fun e W' =>
      (e = .returned (.bool true) ∧ (∃ xs : List (Value × List Int), xs.map (·.2) = (wordsL pal k).map (p ++ ·) ∧ J (pre ++ xs) W') ∧ CS Bm By Bd Bp Bg Br pb pc l m b pal W' p ∧ But (XC Br l X) W W') ∨
      (e = .returned (.bool false) ∧ (∃ xs : List (Value × List Int), xs.map (·.2) <+: (wordsL pal k).map (p ++ ·) ∧ xs ≠ [] ∧ Jx (pre ++ xs) W') ∧ But (XC Br l X) W W')
  | 0, p, pre, W, hp, hN, h0, hO => by
    have h := colGo0 Bm By Bd Bp Bg Br pb l m b n₁ pc N pal X L J Jx hY p (by omega) pre (by simp at hN; omega) W h0 hO
    rw [show p.length = m by omega]
    simpa [wordsL] using h
  | k + 1, p, pre, W, hp, hN, h0, hO => by
    have IH := colGo Bm By Bd Bp Bg Br pb l m b n₁ pc N hm pal hpl X L hbn J Jx hJ hY k
    obtain ⟨q, hq⟩ : ∃ q, q = p.length := ⟨_, rfl⟩
    obtain ⟨n, hn⟩ : ∃ n, n = pal.length := ⟨_, rfl⟩
    have hqm : q < m := by omega
    have hqI : (q : Int) < (m : Int) := by omega
    have hq0 : (0 : Int) ≤ (q : Int) := by omega
    have hn6 : n ≤ 6 := by omega
    have HQ := Lib.hid hq
    have HN := Lib.hid hn
    have cm := hO.bm.cell
    have cq := hO.q.cell
    have HIH := Lib.hid IH
    have H0 : Hid ((∃ xs : List (Value × List Int), xs.map (·.2) = wordsTo pal k p 0 ∧ J (pre ++ xs) W) ∧ CS Bm By Bd Bp Bg Br pb pc l m b pal W p ∧ But (XC Br l X) W W) := Lib.hid ⟨⟨[], by simp [wordsTo], by rw [List.append_nil]; exact h0⟩, hO, But.refl _ _⟩
    have HL := Lib.hid L
    have HJ := Lib.hid hJ
    have HNN := Lib.hid hN
    have HPK : Hid (p.length + (k + 1) = m) := Lib.hid hp
    rw [← hn] at cq
    rw [← hq]
    clear IH h0 hO hY L hJ hq hn hN hp hpl
    go_enter Tryd.func84, Tryd.ntmps84
    go_wp2
    clear cm cq
    go_loopw [9, 18] (fun _ i wr => ∃ j : Nat, j ≤ n ∧ i = .int .i64 (j : Int) ∧ Hid ((∃ xs : List (Value × List Int), xs.map (·.2) = wordsTo pal k p j ∧ J (pre ++ xs) wr) ∧ CS Bm By Bd Bp Bg Br pb pc l m b pal wr p ∧ But (XC Br l X) W wr)) (fun _ i _ => n - (intOf i).toNat)
    case atStart => exact ⟨0, Nat.zero_le _, rfl, H0⟩
    case round =>
      obtain ⟨j, hj, rfl, HS⟩ := hrel
      by_cases hlt : j < n
      · have hjn : (j : Int) < (n : Int) := by omega
        have hj0 : (0 : Int) ≤ (j : Int) := by omega
        obtain ⟨c, hc⟩ : ∃ c, c = pal[j]?.getD 0 := ⟨_, rfl⟩
        have cv := HS.out.2.1.v.2 j (by rw [← HN.out]; exact hlt)
        rw [← hc] at cv
        have cd := HS.out.2.1.d.cell
        obtain ⟨R, hR1, hR2, hR3⟩ := HS.out.2.1.r
        have cr : wr.cell? ⟨Br, q, none⟩ = some ((Value.int .i64) (R[q]?.getD 0)) := by
          rw [blk_cell hR3 q]
          have : q < R.length := by omega
          simp [this]
        have fr := blk_frozen hR3 q
        obtain ⟨hP1, hP2⟩ := put_col HL.out hbn HS.out.2.1 (by rw [← HQ.out]; exact hqm) c
        obtain ⟨W2, hW2⟩ : ∃ W2, wr.setCell ⟨Br, p.length, none⟩ ((Value.int .i64) (c)) = W2 := ⟨_, rfl⟩
        rw [hW2] at hP1 hP2
        rw [← HQ.out] at hW2
        have cg := hP1.g.cell
        obtain ⟨xs, hxs, hxJ⟩ := HS.out.1
        have hJ2 : J (pre ++ xs) W2 := by rw [← hW2]; exact HJ.out.cell q _ HL.out.r hxJ
        have hxl : xs.length = j * n ^ k := by
          have h1 := congrArg List.length hxs
          rw [List.length_map, wordsTo_len pal k p (by rw [← HN.out]; omega), ← HN.out] at h1
          exact h1
        have hI2 := HIH.out (p ++ [c]) (pre ++ xs) W2 (by have := HPK.out; simp; omega) (by
          have h1 := HNN.out
          rw [List.length_append, hxl, ← HN.out]
          rw [← HN.out, Nat.pow_succ, Nat.mul_comm] at h1
          have h2 : j * n ^ k + n ^ k ≤ n * n ^ k := by rw [← Nat.succ_mul]; exact Nat.mul_le_mul_right _ hlt
          omega) hJ2 hP1
        rw [show ((p ++ [c]).length : Int) = (q : Int) + 1 from by rw [List.length_append, ← HQ.out]; simp] at hI2
        have HI2 := Lib.hid hI2
        have HP2 := Lib.hid hP2
        have HC := Lib.hid hc
        have HXS := Lib.hid hxs
        have hjN : Hid (j < pal.length) := Lib.hid (by rw [← HN.out]; exact hlt)
        clear hI2 hP1 hP2 hc hxs hxJ hJ2 hxl hR1 hR2 hR3 H0
        go_wp2_with fail
        refine HI2.out.mono ?_
        rintro e W4 (⟨rfl, ⟨ys, hys, hyJ⟩, hO4, hb4⟩ | ⟨rfl, ⟨ys, hys, hyn, hyJ⟩, hb4⟩)
        · have HR : Hid ((∃ xs : List (Value × List Int), xs.map (·.2) = wordsTo pal k p (j + 1) ∧ J (pre ++ xs) W4) ∧ CS Bm By Bd Bp Bg Br pb pc l m b pal W4 p ∧ But (XC Br l X) W W4) := Lib.hid ⟨⟨xs ++ ys, by rw [List.map_append, HXS.out, hys, wordsTo_succ pal k p hjN.out, HC.out], by rw [← List.append_assoc]; exact hyJ⟩, hO4.cut, (HS.out.2.2.trans HP2.out).trans hb4⟩
          clear hys hyJ hO4 hb4
          go_wp2
          go_roundw
          case rel => exact ⟨j + 1, by omega, by go_num, HR⟩
          case measure => simp [intOf]; omega
        · have HR : Hid ((∃ zs : List (Value × List Int), zs.map (·.2) <+: (wordsL pal (k + 1)).map (p ++ ·) ∧ zs ≠ [] ∧ Jx (pre ++ zs) W4) ∧ But (XC Br l X) W W4) := Lib.hid ⟨⟨xs ++ ys, by rw [List.map_append]; exact wordsTo_pre pal k p hjN.out HXS.out (by rw [HC.out] at hys; exact hys), by simp [hyn], by rw [← List.append_assoc]; exact hyJ⟩, (HS.out.2.2.trans HP2.out).trans hb4⟩
          clear hys hyJ hb4
          go_wp2
          go_ret
          exact .inr ⟨rfl, HR.out.1, HR.out.2⟩
      · obtain rfl : j = n := by omega
        have HR := HS.out
        rw [HN.out, wordsTo_all] at HR
        have HRR := Lib.hid HR
        clear HR H0
        go_wp2
        go_ret
        exact .inl ⟨rfl, HRR.out⟩

end Go.Proofs.YtphddemilibooaaDoor

/- It is proved what allNames yields; conditions: those of each statement. -/
namespace Go.Proofs.YtphddemilibooaaDoor
open Go.RowKit Go.Shelf

theorem store_new (w : World) (n : Nat) (hn : n = w.heap.size) (u v : Value) (t : TypeId) (hv : v.oneCell' = true) : (store ⟨n, 0, none⟩ v).run Tryd.prog (w.alloc (.cells #[u] t)) = .ok () (w.alloc (.cells #[v] t)) := by
  subst hn
  have q : Boxed (w.alloc (.cells #[u] t)) w.heap.size t u := Boxed.new w t u
  rw [run_store _ _ _ _ _ hv, q.cell]
  simp only [q.frozen]
  rw [World.setCell_alloc_new]
  rfl

end Go.Proofs.YtphddemilibooaaDoor

/- It is proved what the iterator over all colours yields; conditions: those of each statement. -/
namespace Go.Proofs.YtphddemilibooaaDoor
open Go.RowKit Go.Shelf

attribute [local go_sem] Oper.semAt_some

theorem Tryd.infC : (Tryd.prog.info? 3).map (fun i => (i.zero, i.size, i.bytes)) = some (some ((Value.int .i64) (0)), 1, 8) := by kernel_rfl
theorem underC : Tryd.prog.underlying 67 = some (.slice 3) := by kernel_rfl
theorem run_makeC (m : Nat) (hm : m ≤ 6) (w : World) : (Instr.makeSlice 67 (.int .i64 (m : Int)) (.int .i64 (m : Int))).run Tryd.prog w = .ok (.slice (some ⟨w.heap.size, 0, none⟩) m m) (w.alloc (.cells (Array.replicate m ((Value.int .i64) (0))) 3)) := by
  obtain ⟨i0, hi0, hz0, hz1, hz2⟩ := info_parts Tryd.infC
  have := run_make (P := Tryd.prog) w 67 3 i0 ((Value.int .i64) (0)) underC hi0 hz0 .i64 .i64 (m : Int) (m : Int) (by omega) (Int.le_refl _) (by rw [hz2]; omega) (by omega)
  rw [this, hz1]
  have e : madeCells (((Value.int .i64) (0)) : Value).cells ((m : Int).toNat * 1) = Array.replicate m ((Value.int .i64) (0)) := by
    apply Array.toList_inj.1
    rw [show (((Value.int .i64) (0)) : Value).cells = #[((Value.int .i64) (0))] from rfl, toList_madeCells_one]; simp
  rw [e]; rfl

set_option maxRecDepth 100000 in
set_option maxHeartbeats 4000000 in
theorem allCol1_in (n Bm Bp pb pc m : Nat) (hm : m ≤ 6) (pal : List Int) (hpl : pal.length ≤ 6) (X : Nat → Prop) (w : World) (hBm : Bm < w.heap.size) (hBp : Bp < w.heap.size) (hpb : pb < w.heap.size) (hXm : ¬ X Bm) (hXq : ¬ X Bp) (hXp : ¬ X pb)
    (cm : Boxed w Bm 3 (.int .i64 (m : Int))) (cq : Boxed w Bp 23 (.slice (some ⟨pb, 0, none⟩) pal.length pc)) (cp : ∀ j, j < pal.length → w.cell? ⟨pb, j, none⟩ = some ((Value.int .i64) (pal[j]?.getD 0))) :
    SeqBut n Tryd.prog 83 #[.pointer (some ⟨Bm, 0, none⟩), .pointer (some ⟨Bp, 0, none⟩)] (fun x : Value × List Int => #[x.1]) X (OkV m) (fun xs => xs.map (·.2) = wordsL pal m) (fun pre => pre.map (·.2) <+: wordsL pal m ∧ pre ≠ []) (pal.length ^ m) w := by
  intro l J Jx W hW hl1 hl2 hX hJ hJx hY h0
  refine callsIn_wide.2 ?_
  have hsW : w.heap.size ≤ W.heap.size := hW.size
  have cmW : Boxed W Bm 3 (.int .i64 (m : Int)) := (hW.block _ hBm).trans cm
  have cqW : Boxed W Bp 23 (.slice (some ⟨pb, 0, none⟩) pal.length pc) := (hW.block _ hBp).trans cq
  have cpW : ∀ j, j < pal.length → W.cell? ⟨pb, j, none⟩ = some ((Value.int .i64) (pal[j]?.getD 0)) := fun j hj => (hW.cell (p := ⟨pb, j, none⟩) hpb).trans (cp j hj)
  have hmk := run_makeC m hm
  obtain ⟨W4, hW4, q0, q1, q2, q3, hs4, hb4⟩ : ∃ W4, (((W.alloc (.cells #[.func (.yield l) #[] #[]] 80)).alloc (.cells (Array.replicate m ((Value.int .i64) (0))) 3)).alloc (.cells #[.slice (some ⟨W.heap.size + 1, 0, none⟩) m m] 67)).alloc (.cells #[.func (.func 84) #[] #[.pointer (some ⟨Bm, 0, none⟩), .pointer (some ⟨W.heap.size, 0, none⟩), .pointer (some ⟨W.heap.size + 1 + 1, 0, none⟩), .pointer (some ⟨Bp, 0, none⟩), .pointer (some ⟨W.heap.size + 1 + 1 + 1, 0, none⟩)]] 56) = W4 ∧
      HasBlk W4 W.heap.size #[.func (.yield l) #[] #[]] 80 ∧ HasBlk W4 (W.heap.size + 1) (Array.replicate m ((Value.int .i64) (0))) 3 ∧ HasBlk W4 (W.heap.size + 1 + 1) #[.slice (some ⟨W.heap.size + 1, 0, none⟩) m m] 67 ∧
      HasBlk W4 (W.heap.size + 1 + 1 + 1) #[.func (.func 84) #[] #[.pointer (some ⟨Bm, 0, none⟩), .pointer (some ⟨W.heap.size, 0, none⟩), .pointer (some ⟨W.heap.size + 1 + 1, 0, none⟩), .pointer (some ⟨Bp, 0, none⟩), .pointer (some ⟨W.heap.size + 1 + 1 + 1, 0, none⟩)]] 56 ∧ W4.heap.size = W.heap.size + 1 + 1 + 1 + 1 ∧ Below W.heap.size W W4 := by
    refine ⟨_, rfl, ?_, ?_, ?_, ?_, by simp, (below3 W _ _ _).alloc (by simp; omega) _⟩
    · exact (alloc_old _ _ _ (by simp <;> omega)).trans (alloc3_0 W _ _ _)
    · exact (alloc_old _ _ _ (by simp <;> omega)).trans (alloc3_1 W _ _ _)
    · exact (alloc_old _ _ _ (by simp <;> omega)).trans (alloc3_2 W _ _ _)
    · unfold HasBlk
      have := alloc_new (((W.alloc (.cells #[.func (.yield l) #[] #[]] 80)).alloc (.cells (Array.replicate m ((Value.int .i64) (0))) 3)).alloc (.cells #[.slice (some ⟨W.heap.size + 1, 0, none⟩) m m] 67)) (.cells #[.func (.func 84) #[] #[.pointer (some ⟨Bm, 0, none⟩), .pointer (some ⟨W.heap.size, 0, none⟩), .pointer (some ⟨W.heap.size + 1 + 1, 0, none⟩), .pointer (some ⟨Bp, 0, none⟩), .pointer (some ⟨W.heap.size + 1 + 1 + 1, 0, none⟩)]] 56)
      simp only [World.size_alloc] at this
      exact this
  have hJ4 : J [] W4 := by
    rw [← hW4]
    exact hJ.alloc _ (hJ.alloc _ (hJ.alloc _ (hJ.alloc _ h0)))
  have hO4 : CS Bm W.heap.size (W.heap.size + 1 + 1) Bp (W.heap.size + 1 + 1 + 1) (W.heap.size + 1) pb pc l m w.heap.size pal W4 [] :=
    ⟨(hb4.block _ (by omega)).trans cmW, q0, q2, (hb4.block _ (by omega)).trans cqW, q3, ⟨List.replicate m 0, by simp, by simp, by simpa using q1⟩, hpb, fun j hj => (hb4.cell (p := ⟨pb, j, none⟩) (show pb < W.heap.size by omega)).trans (cpW j hj)⟩
  have LL : CLies Bm W.heap.size (W.heap.size + 1 + 1) Bp (W.heap.size + 1 + 1 + 1) (W.heap.size + 1) pb l w.heap.size W.heap.size X :=
    ⟨hl2, hX, hl1, hBm, hBp, hpb, hXm, hXq, hXp, by omega, by omega, by omega, by omega, by omega, by omega, by omega⟩
  have IH := colGo Bm W.heap.size (W.heap.size + 1 + 1) Bp (W.heap.size + 1 + 1 + 1) (W.heap.size + 1) pb l m w.heap.size W.heap.size pc (pal.length ^ m) hm pal hpl X LL hsW J Jx hJ (fun k pre x W1 h1 h2 h3 => yield_any k (hY pre x W1 h1 h2 h3)) m [] [] W4 (by simp) (by simp) hJ4 hO4
  have cg := (blk_cell q3 0).trans (cell1_0 _)
  have cm4 : W4.cell? ⟨Bm, 0, none⟩ = some (.int .i64 (m : Int)) := (hb4.cell (p := ⟨Bm, 0, none⟩) (show Bm < W.heap.size by omega)).trans cmW.cell
  have cmA := ((Below.refl W.heap.size W).alloc (Nat.le_refl _) (.cells #[.func (.yield l) #[] #[]] 80)).cell (p := ⟨Bm, 0, none⟩) (show Bm < W.heap.size by omega)
  rw [cmW.cell] at cmA
  rw [show ((List.length ([] : List Int) : Nat) : Int) = 0 from rfl] at IH
  have HIH := Lib.hid IH
  have hst := store_new (((W.alloc (.cells #[.func (.yield l) #[] #[]] 80)).alloc (.cells (Array.replicate m ((Value.int .i64) (0))) 3)).alloc (.cells #[.slice (some ⟨W.heap.size + 1, 0, none⟩) m m] 67)) (W.heap.size + 1 + 1 + 1) (by simp) .nilFunc (.func (.func 84) #[] #[.pointer (some ⟨Bm, 0, none⟩), .pointer (some ⟨W.heap.size, 0, none⟩), .pointer (some ⟨W.heap.size + 1 + 1, 0, none⟩), .pointer (some ⟨Bp, 0, none⟩), .pointer (some ⟨W.heap.size + 1 + 1 + 1, 0, none⟩)]) 56 rfl
  rw [hW4] at hst
  have hmI : (m : Int) ≤ 6 := by omega
  have hm0 : (0 : Int) ≤ (m : Int) := by omega
  clear IH hJ4 hO4 hY h0 hJ hJx q0 q1 q2 q3 hb4 LL hs4 cmW cqW cpW hsW hW cm cq cp hX
  go_enter Tryd.func83, Tryd.ntmps83
  go_wp2_with fail
  refine HIH.out.mono ?_
  rintro e W5 (⟨rfl, ⟨xs, hxs, hj⟩, -, -⟩ | ⟨rfl, ⟨xs, hxs, hxn, hj⟩, -⟩)
  · have HJ := Lib.hid hj
    have HX := Lib.hid hxs
    clear hj hxs hst hW4 hmk
    go_wp2
    go_end0
    exact ⟨⟨_, rfl⟩, .inl ⟨xs, by rw [HX.out]; simp, by simpa using HJ.out⟩⟩
  · have HJ := Lib.hid hj
    have HX := Lib.hid hxs
    clear hj hxs hst hW4 hmk
    go_wp2
    go_end0
    exact ⟨⟨_, rfl⟩, .inr ⟨xs, ⟨by simpa using HX.out, hxn⟩, by simpa using HJ.out⟩⟩

theorem allColours_any (m : Int) (pb pn pc : Nat) (w : World) :
    Calls Tryd.prog 69 #[.int .i64 m, .slice (some ⟨pb, 0, none⟩) pn pc] w fun e w' => e = .returned (.func (.func 83) #[] #[.pointer (some ⟨w.heap.size, 0, none⟩), .pointer (some ⟨w.heap.size + 1, 0, none⟩)]) ∧ w' = (w.alloc (.cells #[.int .i64 m] 3)).alloc (.cells #[.slice (some ⟨pb, 0, none⟩) pn pc] 23) := by
  go_enter Tryd.func69, Tryd.ntmps69
  go_wp2
  go_ret
  exact ⟨rfl, rfl⟩

end Go.Proofs.YtphddemilibooaaDoor

/- It is proved whether some club has colours that are not mixed; conditions: those of each statement. -/
namespace Go.Proofs.YtphddemilibooaaDoor
open Go.RowKit Go.Shelf

attribute [local go_sem] Oper.semAt_some

set_option maxRecDepth 100000 in
theorem rightM_any (a : Option Addr) (n : Nat) (cs : List Int) (z : Nat) (hcs : cs.length = n) (hn : n ≤ 6) (hz : z < 2 ^ n) (w : World) (hc : Ints w w.heap.size a cs) (hT : Tab w) :
    Calls Tryd.prog 66 #[.slice a n n, .int .i64 (z : Int)] w fun e w' => e = .returned (.bool (mixZ cs (z : Int))) ∧ Below w.heap.size w w' := by
  have HK := Lib.hid (kinds_any a n cs z hcs hn hz w hc hT)
  have HM : Hid (mixZ cs (z : Int) = decide (1 < ((kindsOf (colsZ cs (z : Int))).length : Int))) := Lib.hid (by unfold mixZ; congr 1; simp only [eq_iff_iff]; omega)
  obtain ⟨K, hK⟩ : ∃ K, K = (kindsOf (colsZ cs (z : Int))).length := ⟨_, rfl⟩
  rw [← hK] at HK HM
  clear hc hT hcs hz hK
  by_cases h : 1 < (K : Int)
  · have HD : Hid (mixZ cs (z : Int) = true) := Lib.hid (by rw [HM.out, decide_eq_true h])
    go_enter Tryd.func66, Tryd.ntmps66
    go_wp2_with fail
    refine HK.out.mono ?_
    rintro e w1 ⟨rfl, hb⟩
    have HB := Lib.hid hb
    clear hb
    go_wp2
    go_ret
    exact ⟨by rw [HD.out]; rfl, HB.out⟩
  · have HD : Hid (mixZ cs (z : Int) = false) := Lib.hid (by rw [HM.out, decide_eq_false h])
    have h' : (K : Int) ≤ 1 := by omega
    go_enter Tryd.func66, Tryd.ntmps66
    go_wp2_with fail
    refine HK.out.mono ?_
    rintro e w1 ⟨rfl, hb⟩
    have HB := Lib.hid hb
    clear hb
    go_wp2
    go_ret
    exact ⟨by rw [HD.out]; simp; omega, HB.out⟩

set_option maxRecDepth 100000 in
set_option maxHeartbeats 2000000 in
theorem wrongM_any (a : Option Addr) (n : Nat) (cs : List Int) (z : Nat) (hcs : cs.length = n) (hn : n ≤ 6) (hz : z < 2 ^ n) (Bx Bl : Nat) (w : World) (hx : Boxed w Bx 66 (.func (.func 66) #[] #[])) (hl : Boxed w Bl 67 (.slice a n n)) (hc : Ints w w.heap.size a cs) (hT : Tab w) :
    Calls Tryd.prog 71 #[.int .i64 (z : Int), .pointer (some ⟨Bx, 0, none⟩), .pointer (some ⟨Bl, 0, none⟩)] w fun e w' => e = .returned (.bool (!mixZ cs (z : Int))) ∧ Below w.heap.size w w' := by
  have cx := hx.cell
  have cl := hl.cell
  have HM := Lib.hid (rightM_any a n cs z hcs hn hz w hc hT)
  clear hx hl hc hT
  cases hb : mixZ cs (z : Int)
  all_goals
    have HB := Lib.hid hb
    clear hb
    go_enter Tryd.func71, Tryd.ntmps71
    go_wp2_with fail
    refine HM.out.mono ?_
    rintro e w1 ⟨rfl, hb1⟩
    rw [HB.out]
    have HB1 := Lib.hid hb1
    clear hb1
    go_wp2
    go_ret
    exact ⟨rfl, HB1.out⟩

theorem all_noM {cs zs : List Int} {k : Nat} (hk : k < zs.length) (h : mixZ cs (zs[k]?.getD 0) = false) : zs.all (mixZ cs) = false := by
  rw [List.all_eq_false]
  refine ⟨zs[k], List.getElem_mem hk, ?_⟩
  rw [List.getElem?_eq_getElem hk, Option.getD_some] at h
  simp [h]

theorem all_yesM {cs zs : List Int} (h : ∀ j, j < zs.length → mixZ cs (zs[j]?.getD 0) = true) : zs.all (mixZ cs) = true := by
  rw [List.all_eq_true]
  intro z hz
  obtain ⟨j, hj, rfl⟩ := List.mem_iff_getElem.1 hz
  have := h j hj
  rwa [List.getElem?_eq_getElem hj, Option.getD_some] at this

set_option maxRecDepth 100000 in
set_option maxHeartbeats 2000000 in
theorem indexM_any (b : Option Addr) (c : Nat) (zs : List Int) (a : Option Addr) (n : Nat) (cs : List Int) (hcs : cs.length = n) (hn : n ≤ 6) (hz : Sets n zs) (hx8 : zs.length ≤ 1048576) (Bx Bl : Nat) (w : World) (hb : Ints w w.heap.size b zs) (hx : Boxed w Bx 66 (.func (.func 66) #[] #[])) (hl : Boxed w Bl 67 (.slice a n n)) (hc : Ints w w.heap.size a cs) (hT : Tab w) :
    Calls Tryd.prog 85 #[.slice b zs.length c, .func (.func 71) #[] #[.pointer (some ⟨Bx, 0, none⟩), .pointer (some ⟨Bl, 0, none⟩)]] w fun e w' =>
      ∃ r : Int, e = .returned (.int .i64 r) ∧ decide (0 ≤ r) = !(zs.all (mixZ cs)) ∧ Below w.heap.size w w' := by
  obtain ⟨N, hN⟩ : ∃ N, N = zs.length := ⟨_, rfl⟩
  have HN : Hid (N = zs.length) := Lib.hid hN
  have HI := Lib.hid hb
  have HW : Hid (∀ W (z : Nat), Below w.heap.size w W → z < 2 ^ n → Calls Tryd.prog 71 #[.int .i64 (z : Int), .pointer (some ⟨Bx, 0, none⟩), .pointer (some ⟨Bl, 0, none⟩)] W fun e w' => e = .returned (.bool (!mixZ cs (z : Int))) ∧ Below W.heap.size W w') := Lib.hid fun W z h hzz =>
    wrongM_any a n cs z hcs hn hzz Bx Bl W ((h.block _ hx.lt).trans hx) ((h.block _ hl.lt).trans hl) ((hc.below h).mono h.size) (hT.below h hT.lt)
  have HZ := Lib.hid hz
  rw [← hN]
  rw [← hN] at hx8
  clear hN hb hx hl hc hT hz
  go_enter Tryd.func85, Tryd.ntmps85
  go_wp2
  go_loopw [5, 8] (fun _ i wr => ∃ k : Nat, k ≤ N ∧ i = .int .i64 k ∧ Hid ((∀ j, j < k → mixZ cs (zs[j]?.getD 0) = true) ∧ Below w.heap.size w wr)) (fun _ i _ => N - (intOf i).toNat)
  case atStart => exact ⟨0, Nat.zero_le _, rfl, Lib.hid ⟨fun j hj => by omega, Below.refl _ _⟩⟩
  case round =>
    obtain ⟨k, hk, rfl, HE⟩ := hrel
    by_cases hlt : k < N
    · have hki : (k : Int) < (N : Int) := by omega
      have hk0 : (0 : Int) ≤ (k : Int) := by omega
      obtain ⟨b1, o1, rfl, hb1, hc⟩ := (HI.out.below HE.out.2).at_ (k := k) (by rw [← HN.out]; exact hlt)
      obtain ⟨z, hzz⟩ : ∃ z : Nat, zs[k]?.getD 0 = (z : Int) := ⟨(zs[k]?.getD 0).toNat, by have := (HZ.out _ (at_in (xs := zs) (k := k) (by rw [← HN.out]; exact hlt))).1; omega⟩
      have hzn : z < 2 ^ n := by
        have := (HZ.out _ (at_in (xs := zs) (k := k) (by rw [← HN.out]; exact hlt))).2
        rw [hzz, Int.toNat_natCast] at this
        exact this
      have HC := Lib.hid (HW.out wr z HE.out.2 hzn)
      have HZZ := Lib.hid hzz
      rw [hzz] at hc
      clear hzz
      cases hf : mixZ cs (z : Int)
      · have HF := Lib.hid hf
        clear hf
        go_wp2_with fail
        refine HC.out.mono ?_
        rintro e w3 ⟨rfl, hb3⟩
        rw [HF.out]
        have HB3 := Lib.hid (HE.out.2.trans (hb3.mono HE.out.2.size))
        clear hb3
        go_wp2
        go_ret
        exact ⟨_, rfl, by rw [all_noM (k := k) (by rw [← HN.out]; exact hlt) (by rw [HZZ.out]; exact HF.out)]; simp, HB3.out⟩
      · have HF := Lib.hid hf
        clear hf
        go_wp2_with fail
        refine HC.out.mono ?_
        rintro e w3 ⟨rfl, hb3⟩
        rw [HF.out]
        have HR : Hid ((∀ j, j < k + 1 → mixZ cs (zs[j]?.getD 0) = true) ∧ Below w.heap.size w w3) := Lib.hid ⟨fun j hj => by
          rcases Nat.lt_succ_iff_lt_or_eq.1 hj with h | rfl
          · exact HE.out.1 j h
          · rw [HZZ.out]; exact HF.out, HE.out.2.trans (hb3.mono HE.out.2.size)⟩
        clear hb3
        go_wp2
        go_roundw
        case rel => exact ⟨k + 1, by omega, by go_num, HR⟩
        case measure => simp [intOf]; omega
    · obtain rfl : k = N := by omega
      go_wp2
      go_ret
      exact ⟨_, rfl, by rw [all_yesM (by rw [← HN.out]; exact HE.out.1)]; decide, HE.out.2⟩

set_option maxRecDepth 100000 in
set_option maxHeartbeats 1600000 in
theorem containsM_any (b : Option Addr) (c : Nat) (zs : List Int) (a : Option Addr) (n : Nat) (cs : List Int) (hcs : cs.length = n) (hn : n ≤ 6) (hz : Sets n zs) (hx8 : zs.length ≤ 1048576) (Bx Bl : Nat) (w : World) (hb : Ints w w.heap.size b zs) (hx : Boxed w Bx 66 (.func (.func 66) #[] #[])) (hl : Boxed w Bl 67 (.slice a n n)) (hc : Ints w w.heap.size a cs) (hT : Tab w) :
    Calls Tryd.prog 72 #[.slice b zs.length c, .func (.func 71) #[] #[.pointer (some ⟨Bx, 0, none⟩), .pointer (some ⟨Bl, 0, none⟩)]] w fun e w' =>
      e = .returned (.bool (!(zs.all (mixZ cs)))) ∧ Below w.heap.size w w' := by
  have H := Lib.hid (indexM_any b c zs a n cs hcs hn hz hx8 Bx Bl w hb hx hl hc hT)
  clear hb hx hl hc hT hcs hz
  go_enter Tryd.func72, Tryd.ntmps72
  go_wp2_with fail
  refine H.out.mono ?_
  rintro e w1 ⟨r, rfl, hr, hb1⟩
  have HR := Lib.hid hr
  have HB := Lib.hid hb1
  clear hr hb1
  by_cases h : 0 ≤ r
  · go_wp2
    go_ret
    exact ⟨by rw [← HR.out, decide_eq_true h]; rfl, HB.out⟩
  · have h' : r < 0 := by omega
    go_wp2
    go_ret
    exact ⟨by rw [← HR.out]; rfl, HB.out⟩

end Go.Proofs.YtphddemilibooaaDoor
