/- It is proved what the function yields that goes on with colours; conditions: those of each statement. -/
import Derived.RowKit
import Derived.Laws.CopyRow
import Derived.Lib.SlBuf
import Derived.RangeFuncNested
import Derived.RangeFuncBound
import Derived.RangeFuncCalls
import Derived.RangeFuncLeaves
import Derived.RangeFuncBox
import Derived.RangeFuncWrites
import Derived.Test.YtckbhhaigpajpaaDoorRows
import Derived.WalkKit
import Derived.WalkSpells
import Derived.ProofKit
import Derived.OpenShut
import Derived.ShutString
import Derived.ChangeOld
import Derived.Below
import Derived.Deep.RegionHeld3
import Derived.Deep.QuietTactic
import Derived.BigQuiet
import Derived.Lib.Hide
import Derived.Lib.SmallJoins
import Derived.Outline
import Derived.Laws.MakeOwn
import Derived.Laws.OwnMore
import Derived.IntWalk
import Derived.Shelf.Abstract
import Derived.Shelf.RegionOpen
import Derived.OwnWalkIn
import Derived.TacticsInMore
import Derived.LoopNIn
import Derived.LoopIn
import Derived.Maps.AppendAt
import Derived.Deep.AppendLies
import Derived.OwnWalk
import Derived.Shelf.Spec.TrailingZeros
import Derived.Test.YtckbhhaigpajpaaDoorRaaa
import Derived.Test.YtckbhhaigpajpaaDoorRaab
import Derived.Test.YtckbhhaigpajpaaDoorRaac
import Derived.Test.YtckbhhaigpajpaaDoorRaad
import Derived.Test.YtckbhhaigpajpaaDoorYw
namespace Go.Proofs.YtckbhhaigpajpaaDoor
open Go.RowKit Go.Shelf

attribute [local go_sem] Oper.semAt_some

/-- Booleans that lie in a slice. -/
def Bools (W : World) (B : Nat) (a : Option Addr) (vs : List Bool) : Prop := vs = [] ∨ ∃ b o, a = some ⟨b, o, none⟩ ∧ b < B ∧ ∀ j, j < vs.length → W.cell? ⟨b, o + j, none⟩ = some (.bool (vs[j]?.getD false))

/-- What the colours found so far are kept in. -/
structure CSB (Bm By Bd Bp Bg Br pb pc l m b : Nat) (pal : List Bool) (W : World) (p : List Bool) : Prop where
  bm : Boxed W Bm 3 (.int .i64 (m : Int))
  y : Boxed W By 86 (.func (.yield l) #[] #[])
  d : Boxed W Bd 55 (.slice (some ⟨Br, 0, none⟩) m m)
  q : Boxed W Bp 54 (.slice (some ⟨pb, 0, none⟩) pal.length pc)
  g : Boxed W Bg 83 (.func (.func 82) #[] #[.pointer (some ⟨Bm, 0, none⟩), .pointer (some ⟨By, 0, none⟩), .pointer (some ⟨Bd, 0, none⟩), .pointer (some ⟨Bp, 0, none⟩), .pointer (some ⟨Bg, 0, none⟩)])
  r : ∃ R : List Bool, R.length = m ∧ R.take p.length = p ∧ HasBlk W Br (R.map Value.bool).toArray 4
  v : pb < b ∧ ∀ j, j < pal.length → W.cell? ⟨pb, j, none⟩ = some (Value.bool (pal[j]?.getD false))

/-- Where they lie. -/
structure CLiesB (Bm By Bd Bp Bg Br pb l b n₁ : Nat) (X : Nat → Prop) : Prop where
  l2 : l < n₁
  x2 : ∀ k, X k → k < b
  lb : b ≤ l
  mb : Bm < b
  qb : Bp < b
  qpb : pb < b
  mx : ¬ X Bm
  qx : ¬ X Bp
  px : ¬ X pb
  y : n₁ ≤ By
  d : n₁ ≤ Bd
  g : n₁ ≤ Bg
  r : n₁ ≤ Br
  yr : By ≠ Br
  dr : Bd ≠ Br
  gr : Bg ≠ Br

theorem CLiesB.not {Bm By Bd Bp Bg Br pb l b n₁ : Nat} {X : Nat → Prop} (L : CLiesB Bm By Bd Bp Bg Br pb l b n₁ X) : ∀ k, n₁ ≤ k → ¬ (k = l ∨ X k) := fun k hk h => by
  have := L.l2; have := L.lb
  rcases h with h | h
  · omega
  · have := L.x2 k h; omega

theorem CLiesB.old {Bm By Bd Bp Bg Br pb l b n₁ : Nat} {X : Nat → Prop} (L : CLiesB Bm By Bd Bp Bg Br pb l b n₁ X) {k : Nat} (hk : k < b) (hx : ¬ X k) : ¬ (k = l ∨ X k) := fun h => by
  have := L.lb
  rcases h with h | h
  · omega
  · exact hx h

theorem CSB.but {Bm By Bd Bp Bg Br pb l m b n₁ pc : Nat} {pal : List Bool} {X : Nat → Prop} {W W' : World} {p : List Bool} (h : CSB Bm By Bd Bp Bg Br pb pc l m b pal W p) (L : CLiesB Bm By Bd Bp Bg Br pb l b n₁ X)
    (hb : But (fun k => k = l ∨ X k) W W') : CSB Bm By Bd Bp Bg Br pb pc l m b pal W' p := by
  obtain ⟨R, hR1, hR2, hR3⟩ := h.r
  refine ⟨hb.keep (L.old L.mb L.mx) h.bm, hb.keep (L.not _ L.y) h.y, hb.keep (L.not _ L.d) h.d, hb.keep (L.old L.qb L.qx) h.q, hb.keep (L.not _ L.g) h.g, ⟨R, hR1, hR2, hb.keep (L.not _ L.r) hR3⟩, h.v.1, fun j hj => ?_⟩
  have hc := h.v.2 j hj
  have hk : pb < W.heap.size := by
    by_cases hkk : pb < W.heap.size
    · exact hkk
    · rw [World.cell?, Array.getElem?_eq_none (show W.heap.size ≤ pb by omega)] at hc
      cases hc
  exact (World.cell?_of_block (hb.same pb hk (L.old L.qpb L.px))).trans hc

/-- The blocks that may turn. -/
def XCB (Br l : Nat) (X : Nat → Prop) : Nat → Prop := fun k => k = l ∨ X k ∨ k = Br

/-- What a round finds of what it is handed. -/
def OkVB (m : Nat) (x : Value × List Bool) (W : World) : Prop := x.2.length = m ∧ ∃ a, x.1 = .slice a m m ∧ Bools W W.heap.size a x.2

theorem CSB.ok {Bm By Bd Bp Bg Br pb l m b pc : Nat} {pal : List Bool} {W : World} {p : List Bool} (h : CSB Bm By Bd Bp Bg Br pb pc l m b pal W p) (hp : p.length = m) : OkVB m (.slice (some ⟨Br, 0, none⟩) m m, p) W := by
  obtain ⟨R, hR1, hR2, hR3⟩ := h.r
  refine ⟨hp, _, rfl, .inr ⟨Br, 0, rfl, lt_of_some hR3, fun j hj => ?_⟩⟩
  dsimp only at hj ⊢
  have : R = p := by rw [← hR2, hp, ← hR1, List.take_length]
  rw [Nat.zero_add, blk_cell hR3 j, ← this]
  have hjR : j < R.length := by omega
  simp [hjR]

set_option maxRecDepth 100000 in
set_option maxHeartbeats 2000000 in
theorem colGo0B (Bm By Bd Bp Bg Br pb l m b n₁ pc N : Nat) (pal : List Bool) (X : Nat → Prop) (L : CLiesB Bm By Bd Bp Bg Br pb l b n₁ X) (J Jx : List (Value × List Bool) → World → Prop)
    (hY : ∀ k pre x W1, J pre W1 → OkVB m x W1 → pre.length < N → YieldAt Fence.wide k Tryd.prog l #[x.1] W1 fun e W' => (e = .returned (.bool true) ∧ J (pre ++ [x]) W' ∧ But (fun k => k = l ∨ X k) W1 W') ∨ (e = .returned (.bool false) ∧ Jx (pre ++ [x]) W' ∧ But (fun k => k = l ∨ X k) W1 W'))
    (p : List Bool) (hp : p.length = m) (pre : List (Value × List Bool)) (hpN : pre.length < N) (W : World) (h0 : J pre W) (hO : CSB Bm By Bd Bp Bg Br pb pc l m b pal W p) :
    Calls Tryd.prog 82 #[.int .i64 (m : Int), .pointer (some ⟨Bm, 0, none⟩), .pointer (some ⟨By, 0, none⟩), .pointer (some ⟨Bd, 0, none⟩), .pointer (some ⟨Bp, 0, none⟩), .pointer (some ⟨Bg, 0, none⟩)] W fun e W' =>
      (e = .returned (.bool true) ∧ (∃ xs : List (Value × List Bool), xs.map (·.2) = [p] ∧ J (pre ++ xs) W') ∧ CSB Bm By Bd Bp Bg Br pb pc l m b pal W' p ∧ But (XCB Br l X) W W') ∨
      (e = .returned (.bool false) ∧ (∃ xs : List (Value × List Bool), xs.map (·.2) <+: [p] ∧ xs ≠ [] ∧ Jx (pre ++ xs) W') ∧ But (XCB Br l X) W W') := by
  obtain ⟨fn, tmps, assign, body, hy, hR⟩ := hY 5 pre (.slice (some ⟨Br, 0, none⟩) m m, p) _ h0 (hO.ok hp) hpN
  dsimp only at hy
  have cm := hO.bm.cell
  have cy := hO.y.cell
  have cd := hO.d.cell
  have HO := Lib.hid hO
  have HL := Lib.hid L
  have hbm : ∀ A B : World, But (fun k => k = l ∨ X k) A B → But (XCB Br l X) A B := fun _ _ h => h.mono (fun k _ e => by unfold XCB; rcases e with e | e <;> simp [e])
  have HBM := Lib.hid hbm
  clear h0 hY hO L hp hbm
  refine (callsIn_wide (n := 6)).1 ?_
  refine callsIn_of_wp Tryd.func82 rfl trivial ?_ rfl
  simp only [Tryd.ntmps82, List.size_toArray, List.length_cons, List.length_nil, Nat.reduceAdd, Nat.reduceSub, Array.replicate_succ, Array.replicate_zero, List.push_toArray, List.append_toArray, List.nil_append, List.cons_append]
  gi_wp2
  refine hR.mono ?_
  rintro e W3 (⟨rfl, hJ3, hb3⟩ | ⟨rfl, hJ3, hb3⟩)
  · have HJ3 := Lib.hid hJ3
    have HB3 := Lib.hid hb3
    clear hJ3 hb3
    gi_wp2
    refine bodyPost_ret (v := .bool true) (by simp [results, Tryd.results82, go_sem]) rfl ?_
    exact .inl ⟨rfl, ⟨[(.slice (some ⟨Br, 0, none⟩) m m, p)], rfl, HJ3.out⟩, HO.out.but HL.out HB3.out, HBM.out _ _ HB3.out⟩
  · have HJ3 := Lib.hid hJ3
    have HB3 := Lib.hid hb3
    clear hJ3 hb3
    gi_wp2
    refine bodyPost_ret (v := .bool false) (by simp [results, Tryd.results82, go_sem]) rfl ?_
    exact .inr ⟨rfl, ⟨[(.slice (some ⟨Br, 0, none⟩) m m, p)], List.prefix_refl _, by simp, HJ3.out⟩, HBM.out _ _ HB3.out⟩

/-- A colour is put behind those so far. -/
theorem put_colB {Bm By Bd Bp Bg Br pb l m b n₁ pc : Nat} {pal : List Bool} {X : Nat → Prop} (L : CLiesB Bm By Bd Bp Bg Br pb l b n₁ X) (hbn : b ≤ n₁) {W : World} {p : List Bool} (hO : CSB Bm By Bd Bp Bg Br pb pc l m b pal W p) (hp : p.length < m) (v : Bool) :
    CSB Bm By Bd Bp Bg Br pb pc l m b pal (W.setCell ⟨Br, p.length, none⟩ (Value.bool (v))) (p ++ [v]) ∧ But (XCB Br l X) W (W.setCell ⟨Br, p.length, none⟩ (Value.bool (v))) := by
  obtain ⟨R, hR1, hR2, hR3⟩ := hO.r
  have hr := L.r; have hmb := L.mb; have hqb := L.qb; have hpb := L.qpb
  have hset := heap_setCell_same W Br p.length _ 4 (Value.bool (v)) hR3
  refine ⟨⟨HasBlk.far hO.bm (show Bm ≠ Br by omega) _, HasBlk.far hO.y (show By ≠ Br from L.yr) _, HasBlk.far hO.d (show Bd ≠ Br from L.dr) _, HasBlk.far hO.q (show Bp ≠ Br by omega) _, HasBlk.far hO.g (show Bg ≠ Br from L.gr) _, ⟨R.set p.length v, by rw [List.length_set, hR1], ?_, ?_⟩, hO.v.1, fun j hj => ?_⟩, But.setCell _ _ _ _ (fun _ => .inr (.inr rfl))⟩
  · rw [List.length_append, List.length_singleton, List.take_succ_eq_append_getElem (by rw [List.length_set]; omega), List.take_set_of_le (Nat.le_refl _), hR2]
    simp
  · unfold HasBlk
    rw [hset]
    simp [List.map_set]
  · rw [World.cell?_of_block (Below.heap_setCell W ⟨Br, p.length, none⟩ _ pb (show pb ≠ Br by omega))]
    exact hO.v.2 j hj

theorem CSB.cut {Bm By Bd Bp Bg Br pb l m b pc : Nat} {pal : List Bool} {W : World} {p : List Bool} {v : Bool} (hO : CSB Bm By Bd Bp Bg Br pb pc l m b pal W (p ++ [v])) : CSB Bm By Bd Bp Bg Br pb pc l m b pal W p := by
  obtain ⟨R, hR1, hR2, hR3⟩ := hO.r
  refine ⟨hO.bm, hO.y, hO.d, hO.q, hO.g, ⟨R, hR1, ?_, hR3⟩, hO.v⟩
  have := congrArg (List.take p.length) hR2
  rw [List.take_take, List.length_append, Nat.min_eq_left (by simp), List.take_left] at this
  exact this

/-- What is yielded ahead of the colour j. -/
def wordsToB (pal : List Bool) (k : Nat) (p : List Bool) (j : Nat) : List (List Bool) := (pal.take j).flatMap fun c => (wordsL pal k).map fun u => p ++ c :: u

theorem wordsTo_succB (pal : List Bool) (k : Nat) (p : List Bool) {j : Nat} (h : j < pal.length) : wordsToB pal k p (j + 1) = wordsToB pal k p j ++ (wordsL pal k).map ((p ++ [pal[j]?.getD false]) ++ ·) := by
  unfold wordsToB
  rw [List.take_succ_eq_append_getElem h, List.flatMap_append]
  simp [h]

theorem wordsTo_allB (pal : List Bool) (k : Nat) (p : List Bool) : wordsToB pal k p pal.length = (wordsL pal (k + 1)).map (p ++ ·) := by
  unfold wordsToB
  rw [List.take_length, wordsL, List.map_flatMap]
  congr 1
  funext c
  rw [List.map_map]
  rfl

theorem wordsTo_lenB (pal : List Bool) (k : Nat) (p : List Bool) {j : Nat} (h : j ≤ pal.length) : (wordsToB pal k p j).length = j * pal.length ^ k := by
  have : ∀ l : List Bool, (l.flatMap fun c => (wordsL pal k).map fun u => p ++ c :: u).length = l.length * pal.length ^ k := by
    intro l
    induction l with
    | nil => simp
    | cons c l ih => rw [List.flatMap_cons, List.length_append, ih, List.length_map, wordsL_card pal k, List.length_cons, Nat.succ_mul, Nat.add_comm]
  unfold wordsToB
  rw [this, List.length_take, Nat.min_eq_left h]

theorem wordsTo_preB (pal : List Bool) (k : Nat) (p : List Bool) {j : Nat} (h : j < pal.length) {xs ys : List (List Bool)} (hx : xs = wordsToB pal k p j) (hy : ys <+: (wordsL pal k).map ((p ++ [pal[j]?.getD false]) ++ ·)) : xs ++ ys <+: (wordsL pal (k + 1)).map (p ++ ·) := by
  obtain ⟨r, hr⟩ := hy
  have h1 : xs ++ ys ++ r = wordsToB pal k p (j + 1) := by rw [wordsTo_succB pal k p h, ← hr, hx, List.append_assoc]
  have h2 : wordsToB pal k p (j + 1) <+: wordsToB pal k p pal.length := by
    unfold wordsToB
    rw [List.take_length]
    refine ⟨(pal.drop (j + 1)).flatMap fun c => (wordsL pal k).map fun u => p ++ c :: u, ?_⟩
    rw [← List.flatMap_append, List.take_append_drop]
  rw [← wordsTo_allB]
  exact List.IsPrefix.trans ⟨r, h1⟩ h2

set_option maxRecDepth 100000 in
set_option maxHeartbeats 4000000 in
theorem colGoB (Bm By Bd Bp Bg Br pb l m b n₁ pc N : Nat) (hm : m ≤ 6) (pal : List Bool) (hpl : pal.length ≤ 6) (X : Nat → Prop) (L : CLiesB Bm By Bd Bp Bg Br pb l b n₁ X) (hbn : b ≤ n₁) (J Jx : List (Value × List Bool) → World → Prop) (hJ : OwnAll n₁ J)
    (hY : ∀ k pre x W1, J pre W1 → OkVB m x W1 → pre.length < N → YieldAt Fence.wide k Tryd.prog l #[x.1] W1 fun e W' => (e = .returned (.bool true) ∧ J (pre ++ [x]) W' ∧ But (fun k => k = l ∨ X k) W1 W') ∨ (e = .returned (.bool false) ∧ Jx (pre ++ [x]) W' ∧ But (fun k => k = l ∨ X k) W1 W')) :
    ∀ (k : Nat) (p : List Bool) (pre : List (Value × List Bool)) (W : World), p.length + k = m → pre.length + pal.length ^ k ≤ N → J pre W → CSB Bm By Bd Bp Bg Br pb pc l m b pal W p →
    Calls Tryd.prog 82 #[.int .i64 (p.length : Int), .pointer (some ⟨Bm, 0, none⟩), .pointer (some ⟨By, 0, none⟩), .pointer (some ⟨Bd, 0, none⟩), .pointer (some ⟨Bp, 0, none⟩), .pointer (some ⟨Bg, 0, none⟩)] W fun e W' =>
      (e = .returned (.bool true) ∧ (∃ xs : List (Value × List Bool), xs.map (·.2) = (wordsL pal k).map (p ++ ·) ∧ J (pre ++ xs) W') ∧ CSB Bm By Bd Bp Bg Br pb pc l m b pal W' p ∧ But (XCB Br l X) W W') ∨
      (e = .returned (.bool false) ∧ (∃ xs : List (Value × List Bool), xs.map (·.2) <+: (wordsL pal k).map (p ++ ·) ∧ xs ≠ [] ∧ Jx (pre ++ xs) W') ∧ But (XCB Br l X) W W')
  | 0, p, pre, W, hp, hN, h0, hO => by
    have h := colGo0B Bm By Bd Bp Bg Br pb l m b n₁ pc N pal X L J Jx hY p (by omega) pre (by simp at hN; omega) W h0 hO
    rw [show p.length = m by omega]
    simpa [wordsL] using h
  | k + 1, p, pre, W, hp, hN, h0, hO => by
    have IH := colGoB Bm By Bd Bp Bg Br pb l m b n₁ pc N hm pal hpl X L hbn J Jx hJ hY k
    obtain ⟨q, hq⟩ : ∃ q, q = p.length := ⟨_, rfl⟩
    obtain ⟨n, hn⟩ : ∃ n, n = pal.length := ⟨_, rfl⟩
    have hqm : q < m := by omega
    have hqI : (q : Int) < (m : Int) := by omega
    have hq0 : (0 : Int) ≤ (q : Int) := by omega
    have hn6 : n ≤ 6 := by omega
    have HQ := Lib.hid hq
    have HN := Lib.hid hn
    have cm := hO.bm.cell
    have cq := hO.q.cell
    have HIH := Lib.hid IH
    have H0 : Hid ((∃ xs : List (Value × List Bool), xs.map (·.2) = wordsToB pal k p 0 ∧ J (pre ++ xs) W) ∧ CSB Bm By Bd Bp Bg Br pb pc l m b pal W p ∧ But (XCB Br l X) W W) := Lib.hid ⟨⟨[], by simp [wordsToB], by rw [List.append_nil]; exact h0⟩, hO, But.refl _ _⟩
    have HL := Lib.hid L
    have HJ := Lib.hid hJ
    have HNN := Lib.hid hN
    have HPK : Hid (p.length + (k + 1) = m) := Lib.hid hp
    rw [← hn] at cq
    rw [← hq]
    clear IH h0 hO hY L hJ hq hn hN hp hpl
    go_enter Tryd.func82, Tryd.ntmps82
    go_wp2
    clear cm cq
    go_loopw [9, 18] (fun _ i wr => ∃ j : Nat, j ≤ n ∧ i = .int .i64 (j : Int) ∧ Hid ((∃ xs : List (Value × List Bool), xs.map (·.2) = wordsToB pal k p j ∧ J (pre ++ xs) wr) ∧ CSB Bm By Bd Bp Bg Br pb pc l m b pal wr p ∧ But (XCB Br l X) W wr)) (fun _ i _ => n - (intOf i).toNat)
    case atStart => exact ⟨0, Nat.zero_le _, rfl, H0⟩
    case round =>
      obtain ⟨j, hj, rfl, HS⟩ := hrel
      by_cases hlt : j < n
      · have hjn : (j : Int) < (n : Int) := by omega
        have hj0 : (0 : Int) ≤ (j : Int) := by omega
        obtain ⟨c, hc⟩ : ∃ c, c = pal[j]?.getD false := ⟨_, rfl⟩
        have cv := HS.out.2.1.v.2 j (by rw [← HN.out]; exact hlt)
        rw [← hc] at cv
        have cd := HS.out.2.1.d.cell
        obtain ⟨R, hR1, hR2, hR3⟩ := HS.out.2.1.r
        have cr : wr.cell? ⟨Br, q, none⟩ = some (Value.bool (R[q]?.getD false)) := by
          rw [blk_cell hR3 q]
          have : q < R.length := by omega
          simp [this]
        have fr := blk_frozen hR3 q
        obtain ⟨hP1, hP2⟩ := put_colB HL.out hbn HS.out.2.1 (by rw [← HQ.out]; exact hqm) c
        obtain ⟨W2, hW2⟩ : ∃ W2, wr.setCell ⟨Br, p.length, none⟩ (Value.bool (c)) = W2 := ⟨_, rfl⟩
        rw [hW2] at hP1 hP2
        rw [← HQ.out] at hW2
        have cg := hP1.g.cell
        obtain ⟨xs, hxs, hxJ⟩ := HS.out.1
        have hJ2 : J (pre ++ xs) W2 := by rw [← hW2]; exact HJ.out.cell q _ HL.out.r hxJ
        have hxl : xs.length = j * n ^ k := by
          have h1 := congrArg List.length hxs
          rw [List.length_map, wordsTo_lenB pal k p (by rw [← HN.out]; omega), ← HN.out] at h1
          exact h1
        have hI2 := HIH.out (p ++ [c]) (pre ++ xs) W2 (by have := HPK.out; simp; omega) (by
          have h1 := HNN.out
          rw [List.length_append, hxl, ← HN.out]
          rw [← HN.out, Nat.pow_succ, Nat.mul_comm] at h1
          have h2 : j * n ^ k + n ^ k ≤ n * n ^ k := by rw [← Nat.succ_mul]; exact Nat.mul_le_mul_right _ hlt
          omega) hJ2 hP1
        rw [show ((p ++ [c]).length : Int) = (q : Int) + 1 from by rw [List.length_append, ← HQ.out]; simp] at hI2
        have HI2 := Lib.hid hI2
        have HP2 := Lib.hid hP2
        have HC := Lib.hid hc
        have HXS := Lib.hid hxs
        have hjN : Hid (j < pal.length) := Lib.hid (by rw [← HN.out]; exact hlt)
        clear hI2 hP1 hP2 hc hxs hxJ hJ2 hxl hR1 hR2 hR3 H0
        go_wp2_with fail
        refine HI2.out.mono ?_
        rintro e W4 (⟨rfl, ⟨ys, hys, hyJ⟩, hO4, hb4⟩ | ⟨rfl, ⟨ys, hys, hyn, hyJ⟩, hb4⟩)
        · have HR : Hid ((∃ xs : List (Value × List Bool), xs.map (·.2) = wordsToB pal k p (j + 1) ∧ J (pre ++ xs) W4) ∧ CSB Bm By Bd Bp Bg Br pb pc l m b pal W4 p ∧ But (XCB Br l X) W W4) := Lib.hid ⟨⟨xs ++ ys, by rw [List.map_append, HXS.out, hys, wordsTo_succB pal k p hjN.out, HC.out], by rw [← List.append_assoc]; exact hyJ⟩, hO4.cut, (HS.out.2.2.trans HP2.out).trans hb4⟩
          clear hys hyJ hO4 hb4
          go_wp2
          go_roundw
          case rel => exact ⟨j + 1, by omega, by go_num, HR⟩
          case measure => simp [intOf]; omega
        · have HR : Hid ((∃ zs : List (Value × List Bool), zs.map (·.2) <+: (wordsL pal (k + 1)).map (p ++ ·) ∧ zs ≠ [] ∧ Jx (pre ++ zs) W4) ∧ But (XCB Br l X) W W4) := Lib.hid ⟨⟨xs ++ ys, by rw [List.map_append]; exact wordsTo_preB pal k p hjN.out HXS.out (by rw [HC.out] at hys; exact hys), by simp [hyn], by rw [← List.append_assoc]; exact hyJ⟩, (HS.out.2.2.trans HP2.out).trans hb4⟩
          clear hys hyJ hb4
          go_wp2
          go_ret
          exact .inr ⟨rfl, HR.out.1, HR.out.2⟩
      · obtain rfl : j = n := by omega
        have HR := HS.out
        rw [HN.out, wordsTo_allB] at HR
        have HRR := Lib.hid HR
        clear HR H0
        go_wp2
        go_ret
        exact .inl ⟨rfl, HRR.out⟩

end Go.Proofs.YtckbhhaigpajpaaDoor
