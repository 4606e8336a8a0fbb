/- It is proved what the search for tables does; conditions: those of each statement. -/
import Derived.StillTailTactics
import Derived.RowKit
import Derived.Laws.CopyRow
import Derived.Lib.SlBuf
import Derived.Deep.QuietTactic
import Derived.RangeFuncNested
import Derived.RangeFuncBound
import Derived.RangeFuncCalls
import Derived.RangeFuncLeaves
import Derived.RangeFuncBox
import Derived.RangeFuncWrites
import Derived.Maps.OwnIn
import Derived.Maps.Ext
import Derived.DeepKeys4
import Derived.MapKept
import Derived.Test.YtbiggilheicfjaaDoorRows
import Derived.WalkKit
import Derived.WalkSpells
import Derived.ProofKit
import Derived.OpenShut
import Derived.ShutString
import Derived.ChangeOld
import Derived.Below
import Derived.Deep.RegionHeld3
import Derived.BigQuiet
import Derived.Lib.Hide
import Derived.Lib.SmallJoins
import Derived.Outline
import Derived.Laws.MakeOwn
import Derived.Laws.OwnMore
import Derived.IntWalk
import Derived.Maps.AppendAt
import Derived.Sort.QuietIn
import Derived.Lib.AppendZeros
import Derived.Deep.AppendLies
import Derived.OwnWalk
import Derived.Lib.SlicesCompact
import Derived.Lib.OwnBridge
import Derived.OrdersIn
import Derived.TacticsIn
import Derived.Shelf.Sort.Plain
import Derived.Shelf.Slices.In.SortNone
import Derived.Shelf.Slices.CompactI
import Derived.Ground.Names2Prog
import Derived.Shelf.Abstract
import Derived.Shelf.RegionOpen
import Derived.OwnWalkIn
import Derived.TacticsInMore
import Derived.LoopNIn
import Derived.LoopIn
import Derived.StillTail
import Derived.StillTactics
import Derived.Shelf.Spec.TrailingZeros
import Derived.Test.YtbiggilheicfjaaDoorMva
import Derived.Test.YtbiggilheicfjaaDoorAh
import Derived.Test.YtbiggilheicfjaaDoorBi
import Derived.Test.YtbiggilheicfjaaDoorEc
import Derived.Test.YtbiggilheicfjaaDoorEm
import Derived.Test.YtbiggilheicfjaaDoorEn
import Derived.Test.YtbiggilheicfjaaDoorEo
import Derived.Test.YtbiggilheicfjaaDoorEp
import Derived.Test.YtbiggilheicfjaaDoorEr
import Derived.Test.YtbiggilheicfjaaDoorHd
import Derived.Test.YtbiggilheicfjaaDoorHu
import Derived.Test.YtbiggilheicfjaaDoorSt
import Derived.Test.YtbiggilheicfjaaDoorT
import Derived.Test.YtbiggilheicfjaaDoorZa
namespace Go.Proofs.YtbiggilheicfjaaDoor
open Go.RowKit Go.Shelf

attribute [local go_sem] Oper.semAt_some

/-- A club may be chosen: its size is told, and who must be in each club that is left is in it. -/
def okC (left : List Int) (k : Nat) (z : Int) (c : Nat) : Bool := decide (pop (c : Int) = z) && leG ((atL left (k : Int) 5 : Nat) : Int) (c : Int)

/-- The tables of some sizes and degrees, as the program finds them. -/
def tabs : List Int → List Int → List (List Nat)
  | [], left => if left.all (fun x => x == 0) then [[]] else []
  | z :: zs, left => ((prtL (atL left 1 5)).filter (okC left (zs.length + 1) z)).flatMap fun c => (tabs zs (lessV left (mem c))).map (c :: ·)

/-- .. with some first clubs. -/
def tabP (z : Int) (zs left : List Int) (vs : List Nat) : List (List Nat) := (vs.filter (okC left (zs.length + 1) z)).flatMap fun c => (tabs zs (lessV left (mem c))).map (c :: ·)

theorem tabP_all (z : Int) (zs left : List Int) : tabP z zs left (prtL (atL left 1 5)) = tabs (z :: zs) left := by rw [tabs, tabP]
theorem tabP_yes {z : Int} {zs left : List Int} {vs : List Nat} {c : Nat} (h : okC left (zs.length + 1) z c = true) : tabP z zs left (vs ++ [c]) = tabP z zs left vs ++ (tabs zs (lessV left (mem c))).map (c :: ·) := by
  simp [tabP, List.filter_append, h]

theorem tabP_no {z : Int} {zs left : List Int} {vs : List Nat} {c : Nat} (h : okC left (zs.length + 1) z c = false) : tabP z zs left (vs ++ [c]) = tabP z zs left vs := by
  simp [tabP, List.filter_append, h]

theorem flat_len2 {α β : Type} (f : α → List β) (B : Nat) : ∀ (xs : List α), (∀ x ∈ xs, (f x).length ≤ B) → (xs.flatMap f).length ≤ xs.length * B
  | [], _ => by simp
  | x :: xs, h => by
    rw [List.flatMap_cons, List.length_append, List.length_cons, Nat.succ_mul]
    have h1 := h x (by simp)
    have h2 := flat_len2 f B xs (fun y hy => h y (by simp [hy]))
    omega

theorem tabs_len : ∀ (zs left : List Int), (tabs zs left).length ≤ 64 ^ zs.length
  | [], left => by rw [tabs]; split <;> simp
  | z :: zs, left => by
    rw [tabs, List.length_cons, Nat.pow_succ, Nat.mul_comm]
    refine Nat.le_trans (flat_len2 _ (64 ^ zs.length) _ (fun c _ => by rw [List.length_map]; exact tabs_len zs _)) (Nat.mul_le_mul_right _ ?_)
    exact Nat.le_trans (List.length_filter_le _ _) (prt_len _)

theorem tabP_len (z : Int) (zs left : List Int) (vs : List Nat) : (tabP z zs left vs).length ≤ vs.length * 64 ^ zs.length := by
  refine Nat.le_trans (flat_len2 _ (64 ^ zs.length) _ (fun c _ => by rw [List.length_map]; exact tabs_len zs _)) (Nat.mul_le_mul_right _ ?_)
  exact List.length_filter_le _ _

set_option maxRecDepth 100000 in
set_option maxHeartbeats 8000000 in
theorem tabGo (Bz By Bm Bg l b n₁ N : Nat) (za : Option Addr) (zc : Nat) (zs : List Int) (hz : ∀ z ∈ zs, 0 ≤ z ∧ z ≤ 5) (hz5 : zs.length ≤ 5) (L : TLies Bz By Bm Bg l b n₁) (J : List (List Nat) → World → Prop) (hJ : OwnAll n₁ J)
    (hY : ∀ k pre x W1, J pre W1 → OkT zs.length x W1 → pre.length < N → YieldAt Fence.wide k Tryd.prog l (encT x) W1 fun e W' => e = .returned (.bool true) ∧ J (pre ++ [x]) W' ∧ But (fun k => k = l ∨ k = b) W1 W') :
    ∀ (rs : List Int) (place : Nat), rs = zs.drop place → place ≤ zs.length → ∀ (left : List Int), left.length = 5 → (∀ x ∈ left, 0 ≤ x ∧ x ≤ 5) → ∀ (p : List Nat), p.length = place → (∀ c ∈ p, c < 32) → ∀ (pre : List (List Nat)), pre.length + 64 ^ rs.length ≤ N →
      ∀ (ms : List Int), MsOk zs.length p ms → ∀ (W : World), n₁ ≤ W.heap.size → J pre W → TS Bz By Bm Bg l b za zc zs W ms →
    Calls Tryd.prog 96 #[.int .i64 (place : Int), .agg (iv left), .pointer (some ⟨Bz, 0, none⟩), .pointer (some ⟨By, 0, none⟩), .pointer (some ⟨Bm, 0, none⟩), .pointer (some ⟨Bg, 0, none⟩)] W fun e W' => e = .returned (.bool true) ∧
      J (pre ++ (tabs rs left).map (p ++ ·)) W' ∧ (∃ ms', MsOk zs.length p ms' ∧ TS Bz By Bm Bg l b za zc zs W' ms') ∧ But (Xt Bm l b) W W'
  | [], place, hrs, hpl, left, hl, hB, p, hp, hp32, pre, hN, ms, hm, W, hn, h0, hO => by
    have hpn : place = zs.length := by
      have := congrArg List.length hrs
      rw [List.length_drop] at this
      simp at this; omega
    subst hpn
    refine (tab0 Bz By Bm Bg l b n₁ N za zc zs hz5 L J hJ hY left hl hB p hp pre (by simp at hN; omega) ms hm W hn h0 hO).mono ?_
    rintro e W' ⟨rfl, ⟨xs, rfl, hj⟩, hO', hb⟩
    refine ⟨rfl, ?_, ⟨ms, hm, hO'⟩, hb⟩
    rw [tabs]
    cases h : left.all (fun x => x == 0)
    · rw [h] at hj
      simpa using hj
    · rw [h] at hj
      simpa using hj
  | z :: rs, place, hrs, hpl, left, hl, hB, p, hp, hp32, pre, hN, ms, hm, W, hn, h0, hO => by
    have IH := tabGo Bz By Bm Bg l b n₁ N za zc zs hz hz5 L J hJ hY rs (place + 1)
    have hlen : zs.length = place + 1 + rs.length := by
      have := congrArg List.length hrs
      rw [List.length_drop, List.length_cons] at this
      omega
    have hzp : zs[place]?.getD 0 = z := by
      have := congrArg (fun l : List Int => l[0]?.getD 0) hrs
      simp at this
      simp [this]
    have hrs2 : rs = zs.drop (place + 1) := by
      have := congrArg List.tail hrs
      simpa using this
    obtain ⟨x0, x1, x2, x3, x4, hx5⟩ := five hl
    obtain ⟨n, hnn⟩ : ∃ n, n = zs.length := ⟨_, rfl⟩
    obtain ⟨kk, hkk⟩ : ∃ kk, kk = rs.length := ⟨_, rfl⟩
    have hke : (n : Int) - (place : Int) = ((kk + 1 : Nat) : Int) := by omega
    obtain ⟨W3, hW3, q0, q1, q2, hs3⟩ : ∃ W3, ((W.alloc (.cells #[.int .i64 (place : Int)] 3)).alloc (.cells #[Value.int .i64 x0, .int .i64 x1, .int .i64 x2, .int .i64 x3, .int .i64 x4] 81)).alloc (.cells #[.bool false] 4) = W3 ∧
        HasBlk W3 W.heap.size #[.int .i64 (place : Int)] 3 ∧ Nums W3 (W.heap.size + 1) 81 left ∧ HasBlk W3 (W.heap.size + 1 + 1) #[.bool false] 4 ∧ W3.heap.size = W.heap.size + 1 + 1 + 1 :=
      ⟨_, rfl, alloc3_0 W _ _ _, by rw [hx5]; exact alloc3_1 W _ _ _, alloc3_2 W _ _ _, by simp⟩
    have hO3 : TS Bz By Bm Bg l b za zc zs W3 ms := by rw [← hW3]; exact ((hO.alloc L _).alloc L _).alloc L _
    have hJ3 : J pre W3 := by rw [← hW3]; exact hJ _ _ _ none (hJ _ _ _ none (hJ _ _ _ none h0 (World.grownBy_alloc _ _ _) (by simp)) (World.grownBy_alloc _ _ _) (by simp)) (World.grownBy_alloc _ _ _) (by simp)
    have hb3 : But (Xt Bm l b) W W3 := by rw [← hW3]; exact ((But.alloc _ _).trans (But.alloc _ _)).trans (But.alloc _ _)
    have cz := hO3.z.cell
    rw [← hnn] at cz
    have e0 := (blk_cell q0 0).trans (cell1_0 _)
    have d0 := q1.cell 0 (by omega)
    have d1 := q1.cell 1 (by omega)
    have d2 := q1.cell 2 (by omega)
    have d3 := q1.cell 3 (by omega)
    have d4 := q1.cell 4 (by omega)
    simp only [hx5, List.getElem?_cons_zero, List.getElem?_cons_succ, Option.getD_some] at d0 d1 d2 d3 d4
    have hpn : ((place : Int) == (n : Int)) = false := by simp; omega
    have hplI : (place : Int) < (n : Int) := by omega
    have hn5 : (n : Int) ≤ 5 := by omega
    have hby := hO.y.lt
    have hbm := hO.m.lt
    have hbg := hO.g.lt
    have hAt1 := atLeast_any left hl ((n : Int) - (place : Int)) W3
    rw [hke] at hAt1
    rw [show iv left = #[Value.int .i64 x0, .int .i64 x1, .int .i64 x2, .int .i64 x3, .int .i64 x4] from by rw [hx5]; rfl] at hAt1 ⊢
    have hw : IntKind.i64.wrap ((n : Int) - (place : Int)) = ((kk + 1 : Nat) : Int) := by rw [hke, IntKind.wrap_i64]; omega
    have HO3 := Lib.hid hO3
    have HJ3 := Lib.hid hJ3
    have HB3 := Lib.hid hb3
    have Q0 := Lib.hid q0
    have Q1 := Lib.hid q1
    have Q2 := Lib.hid q2
    have HS3 := Lib.hid hs3
    have HX5 := Lib.hid hx5
    have HNN := Lib.hid hnn
    have HKK := Lib.hid hkk
    have HLEN := Lib.hid hlen
    have HZP := Lib.hid hzp
    have HRS := Lib.hid hrs2
    have HL := Lib.hid hl
    have HBB := Lib.hid hB
    have HP := Lib.hid hp
    have HIH := Lib.hid IH
    have HAt1 := Lib.hid hAt1
    clear hx5 hnn hkk hlen hzp hrs hrs2 hl hB hp IH hO3 hJ3 hb3 q0 q1 q2 hs3 h0 hO hke hAt1
    refine (callsIn_wide (n := 6)).1 ?_
    refine callsIn_of_wp_marks Tryd.func96 rfl trivial ?_ rfl
    simp only [Tryd.ntmps96, List.size_toArray, List.length_cons, List.length_nil, Nat.reduceAdd, Nat.reduceSub, Array.replicate_succ, Array.replicate_zero, List.push_toArray, List.append_toArray, List.nil_append, List.cons_append]
    gi_wp2_with fail
    refine ⟨trivial, ?_⟩
    refine (callsIn_wide.2 HAt1.out).mono ?_
    rintro e w4 ⟨rfl, hb4⟩
    obtain ⟨nd, hnd⟩ : ∃ nd, nd = atL left ((kk + 1 : Nat) : Int) 5 := ⟨_, rfl⟩
    rw [← hnd]
    have HND := Lib.hid hnd
    obtain ⟨W5, hW5, q5, hs5⟩ : ∃ W5, w4.alloc (.cells #[.int .i64 (nd : Int)] 63) = W5 ∧ HasBlk W5 w4.heap.size #[.int .i64 (nd : Int)] 63 ∧ W5.heap.size = w4.heap.size + 1 := ⟨_, rfl, alloc_new w4 _, by simp⟩
    have hb5 : Below W3.heap.size W3 W5 := by rw [← hW5]; exact hb4.alloc hb4.size _
    have z4 : W3.heap.size ≤ w4.heap.size := hb4.size
    have HB5 := Lib.hid hb5
    have HS5 := Lib.hid hs5
    have Q5 := Lib.hid q5
    have q15 := Q1.out.below hb5 (by have := HS3.out; omega)
    have l0 := q15.cell 0 (by have := HL.out; omega)
    have l1 := q15.cell 1 (by have := HL.out; omega)
    have l2 := q15.cell 2 (by have := HL.out; omega)
    have l3 := q15.cell 3 (by have := HL.out; omega)
    have l4 := q15.cell 4 (by have := HL.out; omega)
    simp only [HX5.out, List.getElem?_cons_zero, List.getElem?_cons_succ, Option.getD_some] at l0 l1 l2 l3 l4
    have hAt2 := atLeast_any left HL.out 1 W5
    rw [show iv left = #[Value.int .i64 x0, .int .i64 x1, .int .i64 x2, .int .i64 x3, .int .i64 x4] from by rw [HX5.out]; rfl] at hAt2
    have HAt2 := Lib.hid hAt2
    clear hnd hb4 hb5 hs5 q5 q15 hAt2 d0 d1 d2 d3 d4 cz e0
    gi_wp2_with fail
    clear hW5
    refine ⟨trivial, ?_⟩
    refine (callsIn_wide.2 HAt2.out).mono ?_
    rintro e w6 ⟨rfl, hb6⟩
    obtain ⟨c0, hc0⟩ : ∃ c0, c0 = atL left 1 5 := ⟨_, rfl⟩
    rw [← hc0]
    have hc32 : c0 < 32 := by rw [hc0]; exact atL_lt left 1 5 (Nat.le_refl 5)
    have HC0 := Lib.hid hc0
    have HB6 := Lib.hid (HB5.out.trans (hb6.mono HB5.out.size))
    have z6 : W5.heap.size ≤ w6.heap.size := hb6.size
    have Q56 : Hid (HasBlk w6 w4.heap.size #[.int .i64 (nd : Int)] 63) := Lib.hid ((hb6.block _ (by have := HS5.out; omega)).trans Q5.out)
    clear hc0 hb6 l0 l1 l2 l3 l4
    gi_wp2_with fail
    refine ⟨trivial, ?_⟩
    refine (callsIn_wide.2 (parts_any c0 w6)).mono ?_
    rintro e w7 ⟨rfl, rfl⟩
    gi_wp2_with fail
    have h16 : 1 ≤ 6 := by omega
    obtain ⟨W7, hW7, q7, hs7, hb7⟩ : ∃ W7, w6.alloc (.cells #[.int .i64 (c0 : Int)] 63) = W7 ∧ HasBlk W7 w6.heap.size #[.int .i64 (c0 : Int)] 63 ∧ W7.heap.size = w6.heap.size + 1 ∧ Below w6.heap.size w6 W7 := ⟨_, rfl, alloc_new w6 _, by simp, below1 w6 _⟩
    rw [hW7]
    have hs3 := HS3.out
    have hs5 := HS5.out
    have HB7 := Lib.hid (HB6.out.trans (hb7.mono HB6.out.size))
    have hst := parts_stops (6 - 1) (by omega) w6.heap.size c0 (by omega) W7 (by omega) ((blk_cell q7 0).trans (cell1_0 _))
    have HO7 := Lib.hid (HO3.out.step L HB7.out)
    have HJ7 : Hid (J pre W7) := Lib.hid (hJ _ _ _ none HJ3.out (only_of_below HB7.out none) (by simp))
    have HB37 : Hid (But (Xt Bm l b) W W7) := Lib.hid (HB3.out.trans (But.of_below HB7.out))
    have K0 : Hid (HasBlk W7 W.heap.size #[.int .i64 (place : Int)] 3) := Lib.hid ((HB7.out.block _ (by omega)).trans Q0.out)
    have K1 : Hid (Nums W7 (W.heap.size + 1) 81 left) := Lib.hid (Q1.out.below HB7.out (by omega))
    have K2 : Hid (HasBlk W7 (W.heap.size + 1 + 1) #[.bool false] 4) := Lib.hid ((HB7.out.block _ (by omega)).trans Q2.out)
    have K3 : Hid (HasBlk W7 w4.heap.size #[.int .i64 (nd : Int)] 63) := Lib.hid ((hb7.block _ (by omega)).trans Q56.out)
    have KC : Hid (HasBlk W7 w6.heap.size #[.int .i64 (c0 : Int)] 63) := Lib.hid q7
    have HS7 := Lib.hid hs7
    have hx1 : ∀ i, Xt Bm l b i → i < W.heap.size := by intro i h; have := L.bz; have := L.zl; have := L.ln; unfold Xt at h; omega
    have HX1 := Lib.hid hx1
    have hl1 : l < n₁ := L.ln
    clear hW7 q7 hs7 hb7 hs3 hs5 HO3 HJ3 HB3 Q0 Q1 Q2 Q5 Q56 HB5 HB6 HAt1 HAt2 hx1
    refine wpIn_rangeFunc_ownG rfl h16 (gf := 128) (lb := #[.pointer (some ⟨w6.heap.size, 0, none⟩)]) rfl trivial (enters_of Tryd.func128 (by kernel_rfl) rfl)
      hst (fun h k e => k (h e)) ?keepc (Below.refl _ _) (fun _ => rfl)
      (fun ys Wr => J (pre ++ (tabP z rs left (valsP ys)).map (p ++ ·)) Wr ∧ (∃ ms', MsOk zs.length p ms' ∧ TS Bz By Bm Bg l b za zc zs Wr ms') ∧ But (Xt Bm l b) W7 Wr)
      (fun _ _ _ => False)
      ?own
      (fun _ _ _ _ _ hs _ _ => hs)
      ⟨by simpa [tabP, valsP] using HJ7.out, ⟨ms, hm, HO7.out⟩, But.refl _ _⟩
      (fun x => { tmps := #[.int .i64 (place : Int), .agg #[Value.int .i64 x0, .int .i64 x1, .int .i64 x2, .int .i64 x3, .int .i64 x4], .pointer (some ⟨Bz, 0, none⟩), .pointer (some ⟨By, 0, none⟩), .pointer (some ⟨Bm, 0, none⟩), .pointer (some ⟨Bg, 0, none⟩), .pointer (some ⟨W.heap.size, 0, none⟩), .pointer (some ⟨W.heap.size + 1, 0, none⟩), .pointer (some ⟨W.heap.size + 1 + 1, 0, none⟩), .pointer (some ⟨w4.heap.size, 0, none⟩), .int .i64 (x.1 : Int), .int .i64 (place : Int), .slice za n zc, .int .i64 (n : Int), .bool false, undef, undef, undef, undef, undef, undef, undef, undef, .agg #[Value.int .i64 x0, .int .i64 x1, .int .i64 x2, .int .i64 x3, .int .i64 x4], .slice za n zc, .int .i64 (n : Int), .int .i64 (place : Int), .int .i64 ((kk : Int) + 1), .int .i64 (nd : Int), .agg #[Value.int .i64 x0, .int .i64 x1, .int .i64 x2, .int .i64 x3, .int .i64 x4], .int .i64 (c0 : Int), .func (.func 128) #[] #[.pointer (some ⟨w6.heap.size, 0, none⟩)], .int .i64 (x.1 : Int), undef, undef, undef, undef, undef, undef, undef, undef, undef, undef, undef, undef, undef, undef, undef, undef, undef, undef, undef, undef, undef, undef, undef, undef], defers := [] }) ?assign ?body ?done ?stop
    case keepc =>
      intro W' l' o o' hl' ho hoc _ hc
      have hne : w6.heap.size ≠ l' := by have := HS7.out; omega
      rw [← hc]
      exact World.cell?_of_block (World.putObj_heap_other hne)
    case own =>
      rintro ys A B row ⟨hj, ⟨ms', hm', hO⟩, hb⟩ hg hr
      have hr' : ∀ r, row = some r → W7.heap.size ≤ r := fun r e => (hr r e).1
      have hs0 := HS7.out
      have h3 := HB37.out.size
      have hgb : But (fun k => row = some k) A B := But.of_grownBy hg (fun r e _ => e)
      refine ⟨hJ _ _ _ row hj hg (fun r e => by have := hr' r e; omega), ⟨ms', hm', hO.keep L hgb (fun k e => by have := hr' k e; omega)⟩, ⟨hg.os.trans hb.os, hg.tape.trans hb.tape, hg.output.trans hb.output, Nat.le_trans hb.size hg.size, fun i hi hX => (hg.block i (Nat.lt_of_lt_of_le hi hb.size) (fun e => by have := hr' i e.symm; omega)).trans (hb.same i hi hX)⟩⟩
    case assign =>
      intro l1 x Wr K hK
      gi_wp2
      exact hK
    case body =>
      rintro l1 ys x Wr ⟨hj, ⟨ms', hm', hO⟩, hb⟩ hlt
      obtain ⟨c, hcx⟩ : ∃ c, x.1 = c := ⟨_, rfl⟩
      have hc64 : c < 64 := by rw [← hcx]; exact x.2.1
      have hcc : c &&& c0 = c := by rw [← hcx]; exact x.2.2
      dsimp only
      rw [hcx]
      have HCX := Lib.hid hcx
      clear hcx
      have hc32' : c < 32 := by rw [← hcc]; exact Nat.lt_of_le_of_lt Nat.and_le_right hc32
      have hX : ∀ k, W.heap.size ≤ k → ¬ Xt Bm l b k := fun k hk h => by have := HX1.out k h; omega
      have k0 := (blk_cell (show HasBlk Wr W.heap.size #[.int .i64 (place : Int)] 3 from hb.keep (hX _ (Nat.le_refl _)) K0.out) 0).trans (cell1_0 _)
      have k3 := (blk_cell (show HasBlk Wr w4.heap.size #[.int .i64 (nd : Int)] 63 from hb.keep (hX _ (by have := HS3.out; omega)) K3.out) 0).trans (cell1_0 _)
      have cz := hO.z.cell
      rw [← HNN.out] at cz
      obtain ⟨b1, o1, rfl, hb1, hcz⟩ := hO.zi.at_ (k := place) (by have := HLEN.out; omega)
      rw [HZP.out] at hcz
      have hpl0 : (0 : Int) ≤ (place : Int) := by omega
      have hc0I : (0 : Int) ≤ (c : Int) := by omega
      have hc63 : (c : Int) ≤ 63 := by omega
      obtain ⟨P, hP⟩ : ∃ P, P = pop (c : Int) := ⟨_, rfl⟩
      obtain ⟨Q, hQ⟩ : ∃ Q, Q = leG (nd : Int) (c : Int) := ⟨_, rfl⟩
      have HOK : Hid (okC left (rs.length + 1) z c = (decide (P = z) && Q)) := Lib.hid (by rw [okC, hP, hQ, HND.out, HKK.out])
      have HPP := Lib.hid hP
      have HQQ := Lib.hid hQ
      have HJr := Lib.hid hj
      have HMr := Lib.hid hm'
      have HOr := Lib.hid hO
      have HBr := Lib.hid hb
      have HX := Lib.hid hX
      have HCC := Lib.hid hcc
      clear hj hm' hO hb hX hP hQ hcc
      have hmx : Tryd.prog.follows .mixedOrders = true := by kernel_rfl
      by_cases hPz : P = z
      · subst hPz
        gi_wp2
        refine wpIn_region_still_tail_o (Fence.Open.wide.inRound l1) 12 hmx (by kernel_rfl) (by kernel_rfl) ?_
        simp only [List.take_succ_cons, List.take_zero, List.drop_succ_cons, List.drop_zero]
        repeat still_step
        still_call ((size_any _ _ hc0I hc63).mono fun _ _ h => ⟨by rw [h.1, ← HPP.out], h.2.symm⟩)
        repeat still_step
        still_call ((partOf_any _ _ _).mono fun _ _ h => ⟨by rw [h.1, ← HQQ.out], h.2.symm⟩)
        repeat still_step
        cases Q
        · refine wpStill_nil ?_
          change wpListIn _ _ _ _ _ _ _ Wr.drew
          gi_wp2
          refine ⟨(But.drew Wr).from (X := Xt Bm l b) (fun k o hB hi hX => absurd hX (HX.out k (by have := HB37.out.size; omega))), fun e => e, ?_, ⟨ms', HMr.out, HOr.out.keep L (But.drew (X := fun _ => False) Wr) (fun _ e => e.elim)⟩, HBr.out.trans (But.drew Wr)⟩
          rw [valsP_snoc, HCX.out, tabP_no (HOK.out.trans (by simp))]
          exact hJ _ _ _ none HJr.out ⟨rfl, rfl, rfl, Nat.le_refl _, fun _ _ _ => rfl⟩ (by simp)
        · refine wpStill_nil ?_
          change wpListIn _ _ _ _ _ _ _ Wr.drew
          have hpl5 : place < 5 := by have := HLEN.out; omega
          have hpl5I : (place : Int) < 5 := by omega
          have cm := HOr.out.m.cell place (by rw [HMr.out.len]; exact hpl5)
          have fm := HOr.out.m.frozen place
          gi_wp2_with fail
          have hlpC : p.length = place := HP.out
          have hV1 : TS Bz By Bm Bg l b (some ⟨b1, o1, none⟩) zc zs (Wr.setCell ⟨Bm, place, none⟩ (.int .i64 (c : Int))).drew (ms'.set place (c : Int)) := (HOr.out.put L place (c : Int)).keep L (But.drew (X := fun _ => False) _) (fun _ e => e.elim)
          have hV2 : But (Xt Bm l b) Wr (Wr.setCell ⟨Bm, place, none⟩ (.int .i64 (c : Int))).drew := (But.setCell _ _ _ _ (fun _ => .inr (.inr rfl))).trans (But.drew _)
          have hV3 : J (pre ++ (tabP P rs left (valsP ys)).map (p ++ ·)) (Wr.setCell ⟨Bm, place, none⟩ (.int .i64 (c : Int))).drew :=
            hJ _ _ _ (some Bm) HJr.out (grow_drew (only_setCell (p := ⟨Bm, place, none⟩) (World.grownBy.refl _ _) rfl _)) (fun r e => by injection e with e; rw [← e]; exact L.m)
          have hV4 : MsOk zs.length (p ++ [c]) (ms'.set place (c : Int)) := by
            have := HMr.out.put (by have := HLEN.out; omega) hz5 c
            rwa [hlpC] at this
          obtain ⟨V, hV⟩ : ∃ V, (Wr.setCell ⟨Bm, place, none⟩ (.int .i64 (c : Int))).drew = V := ⟨_, rfl⟩
          rw [hV] at hV1 hV2 hV3 ⊢
          have hIH := HIH.out HRS.out (by have := HLEN.out; omega) (lessV left (mem c)) (by rw [lessV_len]; exact HL.out) (less_in HL.out HBB.out hc32' (by rw [← HC0.out]; exact HCC.out)) (p ++ [c]) (by rw [List.length_append, hlpC]; rfl) (fun x hx => by
            rcases List.mem_append.1 hx with h | h
            · exact hp32 x h
            · simp at h; rw [h]; exact hc32') (pre ++ (tabP P rs left (valsP ys)).map (p ++ ·)) (by
            rw [List.length_append, List.length_map]
            have h1 := tabP_len P rs left (valsP ys)
            have h2 : (valsP ys).length = ys.length := by simp [valsP]
            rw [h2] at h1
            have h3 : ys.length * 64 ^ rs.length + 64 ^ rs.length ≤ 64 * 64 ^ rs.length := by
              rw [← Nat.succ_mul]; exact Nat.mul_le_mul_right _ hlt
            rw [List.length_cons, Nat.pow_succ, Nat.mul_comm (64 ^ rs.length) 64] at hN
            omega) (ms'.set place (c : Int)) hV4
          have HIHc := Lib.hid hIH
          have HV1 := Lib.hid hV1
          have HV2 := Lib.hid hV2
          have HV3 := Lib.hid hV3
          have hsV : Wr.heap.size ≤ V.heap.size := hV2.size
          have hsz := HBr.out.size
          have hs7 := HS7.out
          have hs3 := HS3.out
          have hs5 := HS5.out
          have hs37 := HB37.out.size
          have hbef : ∀ k, W.heap.size ≤ k → k < W7.heap.size → V.heap[k]? = W7.heap[k]? := fun k h1 h2 => (HV2.out.same k (by omega) (HX.out k h1)).trans (HBr.out.same k h2 (HX.out k h1))
          have V0 : Hid (HasBlk V W.heap.size #[.int .i64 (place : Int)] 3) := Lib.hid ((hbef _ (Nat.le_refl _) (by omega)).trans K0.out)
          have V1 : Hid (Nums V (W.heap.size + 1) 81 left) := Lib.hid ((hbef _ (by omega) (by omega)).trans K1.out)
          have hxV : left = [x0, x1, x2, x3, x4] := HX5.out
          have hLs := fun (W' : World) (hT : Tab W') => less_any left HL.out (fun x hx => by have := HBB.out x hx; omega) c hc32' W' hT
          rw [show iv left = #[Value.int .i64 x0, .int .i64 x1, .int .i64 x2, .int .i64 x3, .int .i64 x4] from by rw [HX5.out]; rfl] at hLs
          have HLs := Lib.hid hLs
          clear hLs
          have hplw : IntKind.i64.wrap ((place : Int) + 1) = (place : Int) + 1 := by rw [IntKind.wrap_i64]; omega
          have HXV := Lib.hid hxV
          have hsV2 : W.heap.size + 3 ≤ V.heap.size := by omega
          clear hV hV1 hV2 hV3 hV4 hIH cm fm k0 k3 cz hcz hbef hsV hsz hs7 hs3 hs5 hs37 hxV hlpC
          refine wpIn_region_held (A := fun ls => { tmps := #[.int .i64 (place : Int), .agg #[Value.int .i64 x0, .int .i64 x1, .int .i64 x2, .int .i64 x3, .int .i64 x4], .pointer (some ⟨Bz, 0, none⟩), .pointer (some ⟨By, 0, none⟩), .pointer (some ⟨Bm, 0, none⟩), .pointer (some ⟨Bg, 0, none⟩), .pointer (some ⟨W.heap.size, 0, none⟩), .pointer (some ⟨W.heap.size + 1, 0, none⟩), .pointer (some ⟨W.heap.size + 1 + 1, 0, none⟩), .pointer (some ⟨w4.heap.size, 0, none⟩), .int .i64 (c : Int), .int .i64 (place : Int), .slice (some ⟨b1, o1, none⟩) n zc, .int .i64 (n : Int), .bool false, undef, undef, undef, undef, undef, undef, undef, undef, .agg #[Value.int .i64 x0, .int .i64 x1, .int .i64 x2, .int .i64 x3, .int .i64 x4], .slice (some ⟨b1, o1, none⟩) n zc, .int .i64 (n : Int), .int .i64 (place : Int), .int .i64 ((kk : Int) + 1), .int .i64 (nd : Int), .agg #[Value.int .i64 x0, .int .i64 x1, .int .i64 x2, .int .i64 x3, .int .i64 x4], .int .i64 (c0 : Int), .func (.func 128) #[] #[.pointer (some ⟨w6.heap.size, 0, none⟩)], .int .i64 (c : Int), .int .i64 (c : Int), .int .i64 P, .slice (some ⟨b1, o1, none⟩) n zc, .int .i64 (place : Int), .pointer (some ⟨b1, o1 + place, none⟩), .int .i64 P, .bool false, .bool false, .int .i64 (nd : Int), .int .i64 (c : Int), .bool true, .bool (!true), .bool false, .int .i64 (place : Int), .int .i64 (c : Int), .pointer (some ⟨Bm, place, none⟩), bif ls.getD 0 false then (.func (.func 96) #[] #[.pointer (some ⟨Bz, 0, none⟩), .pointer (some ⟨By, 0, none⟩), .pointer (some ⟨Bm, 0, none⟩), .pointer (some ⟨Bg, 0, none⟩)]) else undef, bif ls.getD 1 false then .int .i64 (place : Int) else undef, bif ls.getD 2 false then .int .i64 ((place : Int) + 1) else undef, bif ls.getD 3 false then .agg #[Value.int .i64 x0, .int .i64 x1, .int .i64 x2, .int .i64 x3, .int .i64 x4] else undef, bif ls.getD 4 false then .int .i64 (c : Int) else undef, bif ls.getD 5 false then .agg (iv (lessV left (mem c))) else undef, bif ls.getD 6 false then .bool true else undef, bif ls.getD 7 false then .bool false else undef], defers := [] }) (S := fun ls W' => (ls.getD 2 false = true → ls.getD 1 false = true) ∧ (ls.getD 5 false = true → ls.getD 3 false = true ∧ ls.getD 4 false = true) ∧ (ls.getD 6 false = true → ls.getD 0 false = true ∧ ls.getD 2 false = true ∧ ls.getD 5 false = true) ∧ (if ls.getD 6 false then (J (pre ++ ((tabP P rs left (valsP ys)).map (fun x => p ++ x) ++ (tabs rs (lessV left (mem c))).map (fun x => p ++ c :: x))) W' ∧ (∃ ms'', MsOk zs.length (p ++ [c]) ms'' ∧ TS Bz By Bm Bg l b (some ⟨b1, o1, none⟩) zc zs W' ms'') ∧ But (Xt Bm l b) V W') else Below V.heap.size V W')) hmx (by kernel_rfl) rfl ⟨(fun h => (by cases h)), (fun h => (by cases h)), (fun h => (by cases h)), (Below.refl _ _).drew⟩ ?step ?fin
          case step =>
            rintro listed W' i hsz hi ⟨hd2, hd5, hS6, hS⟩
            obtain ⟨l0, l1', l2, l3, l4, l5, l6, l7, rfl⟩ := arr8b listed hsz
            obtain ⟨hi1, hi2⟩ := List.mem_filter.1 hi
            have hi8 : i < 8 := by simpa using hi1
            have hcase : i = 0 ∨ i = 1 ∨ i = 2 ∨ i = 3 ∨ i = 4 ∨ i = 5 ∨ i = 6 ∨ i = 7 := by omega
            rcases hcase with rfl | rfl | rfl | rfl | rfl | rfl | rfl | rfl
            · simp [Region.binds] at hi2
              subst hi2
              have h6 : l6 = false := by
                cases l6
                · rfl
                · exfalso; have h := hS6 rfl; (try simp at h hd2 hd5); (try simp_all)
              subst h6
              have hB : Below V.heap.size V W' := hS
              have cg := (HV1.out.step L hB).g.cell
              refine wpOpIn_of_list rfl ?_
              gi_wp2
              first | exact And.intro rfl (And.intro hd2 (And.intro hd5 hB)) | exact (And.intro hd2 (And.intro hd5 hB))
            · simp [Region.binds] at hi2
              subst hi2
              have h6 : l6 = false := by
                cases l6
                · rfl
                · exfalso; have h := hS6 rfl; (try simp at h hd2 hd5); (try simp_all)
              subst h6
              have hB : Below V.heap.size V W' := hS
              have cp := (blk_cell (show HasBlk W' W.heap.size #[.int .i64 (place : Int)] 3 from (hB.block _ (by omega)).trans V0.out) 0).trans (cell1_0 _)
              refine wpOpIn_of_list rfl ?_
              gi_wp2
              first | exact And.intro rfl (And.intro hd5 hB) | exact (And.intro hd5 hB)
            · simp [Region.binds] at hi2
              obtain ⟨rfl, rfl⟩ := hi2
              have h6 : l6 = false := by
                cases l6
                · rfl
                · exfalso; have h := hS6 rfl; (try simp at h hd2 hd5); (try simp_all)
              subst h6
              have hB : Below V.heap.size V W' := hS
              have hw1 := hplw
              refine wpOpIn_of_list rfl ?_
              gi_wp2
              first | exact And.intro rfl (And.intro hd5 hB) | exact (And.intro hd5 hB)
            · simp [Region.binds] at hi2
              subst hi2
              have h6 : l6 = false := by
                cases l6
                · rfl
                · exfalso; have h := hS6 rfl; (try simp at h hd2 hd5); (try simp_all)
              subst h6
              have hB : Below V.heap.size V W' := hS
              have hq := V1.out.below hB (by omega)
              have c0' := hq.cell 0 (by have := HL.out; omega)
              have c1' := hq.cell 1 (by have := HL.out; omega)
              have c2' := hq.cell 2 (by have := HL.out; omega)
              have c3' := hq.cell 3 (by have := HL.out; omega)
              have c4' := hq.cell 4 (by have := HL.out; omega)
              simp only [HXV.out, List.getElem?_cons_zero, List.getElem?_cons_succ, Option.getD_some] at c0' c1' c2' c3' c4'
              refine wpOpIn_of_list rfl ?_
              gi_wp2
              first | exact And.intro rfl (And.intro hd2 (And.intro (fun h => (hd5 h).2) hB)) | exact (And.intro hd2 (And.intro (fun h => (hd5 h).2) hB)) | exact And.intro rfl (And.intro hd2 (And.intro (fun h => (hd5 h).2) hB)) | exact (And.intro hd2 (And.intro (fun h => (hd5 h).2) hB))
            · simp [Region.binds] at hi2
              subst hi2
              have h6 : l6 = false := by
                cases l6
                · rfl
                · exfalso; have h := hS6 rfl; (try simp at h hd2 hd5); (try simp_all)
              subst h6
              have hB : Below V.heap.size V W' := hS
              skip
              refine wpOpIn_of_list rfl ?_
              gi_wp2
              first | exact And.intro rfl (And.intro hd2 (And.intro (fun h => (hd5 h).1) hB)) | exact (And.intro hd2 (And.intro (fun h => (hd5 h).1) hB))
            · simp [Region.binds] at hi2
              obtain ⟨rfl, rfl, rfl⟩ := hi2
              have h6 : l6 = false := by
                cases l6
                · rfl
                · exfalso; have h := hS6 rfl; (try simp at h hd2 hd5); (try simp_all)
              subst h6
              have hB : Below V.heap.size V W' := hS
              have hq := HLs.out W' (HV1.out.t.below hB (HV1.out.t.lt))
              refine wpOpIn_of_list rfl ?_
              gi_wp2_with (refine ⟨trivial, ?_⟩; gi_at_call 99; refine (CallsIn.inRound l1 (callsIn_wide.2 hq)).mono ?_; rintro e w9 ⟨rfl, hb9⟩)
              have hB := hB.trans (hb9.mono hB.size)
              first | exact And.intro rfl (And.intro hd2 hB) | exact (And.intro hd2 hB)
            · simp [Region.binds] at hi2
              obtain ⟨rfl, rfl, rfl, rfl⟩ := hi2
              have hB : Below V.heap.size V W' := hS
              have hq := HIHc.out W' (by have := hB.size; omega) (hJ _ _ _ none HV3.out (only_of_below hB none) (by simp)) (HV1.out.step L hB)
              rw [show ((place + 1 : Nat) : Int) = (place : Int) + 1 from by omega] at hq
              have hd1 : l1' = true := by simpa using hd2 rfl
              have hd34 : l3 = true ∧ l4 = true := by simpa using hd5 rfl
              obtain ⟨hd3, hd4⟩ := hd34
              subst hd1 hd3 hd4
              refine wpOpIn_of_list rfl ?_
              gi_wp2_with (refine ⟨trivial, ?_⟩; gi_at_call 96; refine (CallsIn.inRound l1 (callsIn_wide.2 hq)).mono ?_; rintro e w9 ⟨rfl, hj9, hm9, hb9⟩)
              have hj9' : J (pre ++ ((tabP P rs left (valsP ys)).map (fun x => p ++ x) ++ (tabs rs (lessV left (mem c))).map (fun x => p ++ c :: x))) w9 := by simpa using hj9
              have hB := (⟨hj9', hm9, (But.of_below hB).trans hb9⟩ : J (pre ++ ((tabP P rs left (valsP ys)).map (fun x => p ++ x) ++ (tabs rs (lessV left (mem c))).map (fun x => p ++ c :: x))) w9 ∧ (∃ ms'', MsOk zs.length (p ++ [c]) ms'' ∧ TS Bz By Bm Bg l b (some ⟨b1, o1, none⟩) zc zs w9 ms'') ∧ But (Xt Bm l b) V w9)
              have hS6 : (true = true → true = true ∧ true = true ∧ true = true) := fun _ => ⟨rfl, rfl, rfl⟩
              first | exact And.intro rfl hB | exact hB | exact And.intro rfl (And.intro hB.1 (And.intro hB.2.1 hB.2.2)) | exact And.intro rfl (And.intro hd2 (And.intro hd5 (And.intro hS6 hB)))
            · simp [Region.binds] at hi2
              obtain ⟨rfl, rfl⟩ := hi2
              obtain ⟨h0, h2, h5⟩ : l0 = true ∧ l2 = true ∧ l5 = true := by simpa using hS6 rfl
              subst h0 h2 h5
              have hd1 : l1' = true := by simpa using hd2 rfl
              have hd34 : l3 = true ∧ l4 = true := by simpa using hd5 rfl
              obtain ⟨hd3, hd4⟩ := hd34
              subst hd1 hd3 hd4
              have hB := hS
              refine wpOpIn_of_list rfl ?_
              gi_wp2
              first | exact And.intro rfl hB | exact hB | exact And.intro rfl (And.intro hB.1 (And.intro hB.2.1 hB.2.2)) | exact And.intro rfl (And.intro hd2 (And.intro hd5 (And.intro hS6 hB)))
          case fin =>
            rintro listed W' hsz hall ⟨-, -, -, hS⟩
            obtain ⟨l0, l1', l2, l3, l4, l5, l6, l7, rfl⟩ := arr8b listed hsz
            simp at hall
            obtain ⟨rfl, rfl, rfl, rfl, rfl, rfl, rfl, rfl⟩ := hall
            obtain ⟨hj9, ⟨ms9, hm9, ht9⟩, hb9⟩ := hS
            have hbW : But (Xt Bm l b) Wr W' := HV2.out.trans hb9
            have HJ9 := Lib.hid hj9
            have HM9 := Lib.hid hm9
            have HT9 := Lib.hid ht9
            have HBW := Lib.hid hbW
            clear hj9 hm9 ht9 hb9 hbW
            dsimp only
            gi_wp2
            have hs9 := HBr.out.size
            have hs7 := HS7.out
            have hs37 := HB37.out.size
            refine ⟨HBW.out.from (fun k o hB hi hX => absurd hX (HX.out k (by omega))), fun e => (but_cell HBW.out (by show w6.heap.size < Wr.heap.size; omega) (HX.out _ (by have := HS3.out; have := HS5.out; show W.heap.size ≤ w6.heap.size; omega))).trans e, ?_, ⟨ms9, HM9.out.off, HT9.out⟩, HBr.out.trans HBW.out⟩
            rw [valsP_snoc, HCX.out, tabP_yes (HOK.out.trans (by simp)), List.map_append, List.map_map]
            exact HJ9.out
      · have hPzb : (P == z) = false := by simpa using hPz
        gi_wp2
        refine wpIn_region_still_tail_o (Fence.Open.wide.inRound l1) 12 hmx (by kernel_rfl) (by kernel_rfl) ?_
        simp only [List.take_succ_cons, List.take_zero, List.drop_succ_cons, List.drop_zero]
        repeat still_step
        still_call ((size_any _ _ hc0I hc63).mono fun _ _ h => ⟨by rw [h.1, ← HPP.out], h.2.symm⟩)
        repeat still_step
        refine wpStill_nil ?_
        change wpListIn _ _ _ _ _ _ _ Wr.drew
        gi_wp2
        refine ⟨(But.drew Wr).from (X := Xt Bm l b) (fun k o hB hi hX => absurd hX (HX.out k (by have := HB37.out.size; omega))), fun e => e, ?_, ⟨ms', HMr.out, HOr.out.keep L (But.drew (X := fun _ => False) Wr) (fun _ e => e.elim)⟩, HBr.out.trans (But.drew Wr)⟩
        rw [valsP_snoc, HCX.out, tabP_no (HOK.out.trans (by simp [hPz]))]
        exact hJ _ _ _ none HJr.out ⟨rfl, rfl, rfl, Nat.le_refl _, fun _ _ _ => rfl⟩ (by simp)
    case done =>
      rintro D ys Wr hD hys ⟨hj, ⟨ms', hm', hO⟩, hb⟩ hK
      have hys2 : valsP ys = prtL c0 := hys
      have hX : ∀ k, W.heap.size ≤ k → ¬ Xt Bm l b k := fun k hk h => by have := HX1.out k h; omega
      have qr : HasBlk Wr (W.heap.size + 1 + 1) #[.bool false] 4 := hb.keep (hX _ (by omega)) K2.out
      have c3 := (blk_cell qr 0).trans (cell1_0 _)
      have f3 := blk_frozen qr 0
      have hs7 := HS7.out
      have hs3 := HS3.out
      have hs5 := HS5.out
      have hs37 := HB37.out.size
      have hDl : D < Wr.heap.size := lt_of_some hK
      have hK1 : (Wr.setCell ⟨W.heap.size + 1 + 1, 0, none⟩ (.bool true)).heap[D]? = some (.deferred (some [])) := (Below.heap_setCell Wr ⟨W.heap.size + 1 + 1, 0, none⟩ (.bool true) D (show D ≠ W.heap.size + 1 + 1 by omega)).trans hK
      have hO4 := hO.keep L (X := fun k => k = W.heap.size + 1 + 1) (But.setCell Wr (W.heap.size + 1 + 1) 0 (.bool true) (fun _ => rfl)) (fun k e => by omega)
      have hO5 := hO4.keep L (X := fun k => k = D) (But.putObj _ D (.deferred none) rfl) (fun k e => by omega)
      have hJ5 : J (pre ++ (tabs (z :: rs) left).map (p ++ ·)) ((Wr.setCell ⟨W.heap.size + 1 + 1, 0, none⟩ (.bool true)).putObj D (.deferred none)) := by
        rw [← tabP_all, ← HC0.out, ← hys2]
        exact hJ _ _ _ (some D) (hJ _ _ _ (some (W.heap.size + 1 + 1)) hj (only_setCell (p := ⟨W.heap.size + 1 + 1, 0, none⟩) (World.grownBy.refl _ _) rfl _) (fun r e => by injection e; omega)) (grownBy_putObj' _ D _) (fun r e => by injection e; omega)
      have qr5 : HasBlk ((Wr.setCell ⟨W.heap.size + 1 + 1, 0, none⟩ (.bool true)).putObj D (.deferred none)) (W.heap.size + 1 + 1) #[.bool true] 4 := (World.putObj_heap_other (by omega)).trans ((show Boxed Wr (W.heap.size + 1 + 1) 4 (.bool false) from qr).set (.bool true))
      have c5 := (blk_cell qr5 0).trans (cell1_0 _)
      have HB5 : Hid (But (Xt Bm l b) W ((Wr.setCell ⟨W.heap.size + 1 + 1, 0, none⟩ (.bool true)).putObj D (.deferred none))) := Lib.hid (by
        have h1 := HB37.out.trans hb
        exact ⟨h1.os, h1.tape, h1.output, by have := h1.size; simpa using this, fun i hi hX => (World.putObj_heap_other (by omega)).trans ((Below.heap_setCell Wr ⟨W.heap.size + 1 + 1, 0, none⟩ _ i (show i ≠ W.heap.size + 1 + 1 by omega)).trans (h1.same i hi hX))⟩)
      have HO5 := Lib.hid hO5
      have HJ5 := Lib.hid hJ5
      have HM5 := Lib.hid hm'
      clear hj hO hb hO4 hO5 hJ5 hK qr qr5 hm' hys hys2
      gi_wp2
      refine ⟨by simp, .inl ⟨_, _, rfl, run_takeDeferred hK1, ?_⟩⟩
      exact ⟨.bool true, by simp [results, Tryd.results96, go_sem, c5], rfl, HJ5.out, ⟨ms', HM5.out, HO5.out⟩, HB5.out⟩
    case stop =>
      rintro D c pre W _ _ h _
      exact h.elim

end Go.Proofs.YtbiggilheicfjaaDoor
