/- It is proved what EarNested of the program and of the model return; conditions: those of each statement. -/
import Derived.Deep.LoopGhost
import Derived.Deep.QuietTactic
import Derived.BigQuiet
import Derived.RowKit
import Derived.Laws.CopyRow
import Derived.Lib.SlBuf
import Derived.RangeFuncNested
import Derived.RangeFuncBound
import Derived.RangeFuncCalls
import Derived.RangeFuncLeaves
import Derived.RangeFuncBox
import Derived.RangeFuncWrites
import Derived.StillTailTactics
import Derived.Maps.OwnIn
import Derived.Maps.Ext
import Derived.DeepKeys4
import Derived.MapKept
import Derived.Test.YtidbkegnngfpiaaRows
import Derived.WalkKit
import Derived.WalkSpells
import Derived.ProofKit
import Derived.OpenShut
import Derived.ShutString
import Derived.ChangeOld
import Derived.Below
import Derived.Deep.RegionHeld3
import Derived.Lib.Hide
import Derived.Lib.SmallJoins
import Derived.Outline
import Derived.Laws.MakeOwn
import Derived.Laws.OwnMore
import Derived.IntWalk
import Derived.Deep.RegionLaw
import Derived.Deep.AppendLies
import Derived.Lib.AppendZeros
import Derived.Maps.AppendAt
import Derived.OwnWalk
import Derived.Lib.SlicesCompact
import Derived.Lib.OwnBridge
import Derived.OrdersIn
import Derived.TacticsIn
import Derived.Shelf.Sort.Plain
import Derived.Shelf.Slices.In.SortNone
import Derived.Shelf.Slices.CompactI
import Derived.Ground.Names2Prog
import Derived.Lib.SliceRun
import Derived.Shelf.Abstract
import Derived.Shelf.RegionOpen
import Derived.OwnWalkIn
import Derived.TacticsInMore
import Derived.LoopNIn
import Derived.LoopIn
import Derived.StillTail
import Derived.StillTactics
import Derived.Shelf.Spec.TrailingZeros
import Derived.Test.YtidbkegnngfpiaaB
import Derived.Test.YtidbkegnngfpiaaC
import Derived.Test.YtidbkegnngfpiaaD
import Derived.Test.YtidbkegnngfpiaaE
import Derived.Test.YtidbkegnngfpiaaF
import Derived.Test.YtidbkegnngfpiaaFb
import Derived.Test.YtidbkegnngfpiaaG
import Derived.Test.YtidbkegnngfpiaaGa
import Derived.Test.YtidbkegnngfpiaaGb
import Derived.Test.YtidbkegnngfpiaaHu
import Derived.Test.YtidbkegnngfpiaaKa
import Derived.Test.YtidbkegnngfpiaaKc
import Derived.Test.YtidbkegnngfpiaaKl
import Derived.Test.YtidbkegnngfpiaaKm
import Derived.Test.YtidbkegnngfpiaaN
import Derived.Test.YtidbkegnngfpiaaP
import Derived.Test.YtidbkegnngfpiaaSa
import Derived.Test.YtidbkegnngfpiaaTb
namespace Go.Proofs.Ytidbkegnngfpiaa
open Go.RowKit Go.Shelf

attribute [local go_sem] Oper.semAt_some

/-- Two sets that meet, none a part of the other one. -/
def crossB (x y : Int) : Bool := (bits .and .i64 x y != 0) && ((bits .and .i64 x y != x) && (bits .and .i64 x y != y))

def rowB (zs : List Int) (i k : Nat) : Bool := (List.range k).all fun j => !crossB (zs[i]?.getD 0) (zs[j]?.getD 0)
def nestB (zs : List Int) (i : Nat) : Bool := (List.range i).all fun j => rowB zs j j
theorem rowB_succ (zs : List Int) (i k : Nat) : rowB zs i (k + 1) = (rowB zs i k && !crossB (zs[i]?.getD 0) (zs[k]?.getD 0)) := by simp [rowB, List.range_succ]
theorem nestB_succ (zs : List Int) (i : Nat) : nestB zs (i + 1) = (nestB zs i && rowB zs i i) := by simp [nestB, List.range_succ]
theorem rowB_out {zs : List Int} {i k j : Nat} (h : rowB zs i k = true) (hj : j < k) : crossB (zs[i]?.getD 0) (zs[j]?.getD 0) = false := by
  have := List.all_eq_true.1 h j (List.mem_range.2 hj)
  simpa using this

theorem nestB_no {zs : List Int} {i j n : Nat} (hi : i < n) (hj : j < i) (h : crossB (zs[i]?.getD 0) (zs[j]?.getD 0) = true) : nestB zs n = false := by
  cases hn : nestB zs n
  · rfl
  · have h1 := List.all_eq_true.1 hn i (List.mem_range.2 hi)
    rw [rowB_out h1 hj] at h
    cases h

set_option maxRecDepth 100000 in
set_option maxHeartbeats 4000000 in
theorem specNested_any (m : Int) (a : Option Addr) (c : Nat) (zs : List Int) (w : World) (ha : Ints w w.heap.size a zs) (hx : zs.length ≤ 1048576) :
    Calls Try.prog 5 #[.agg #[.int .i64 m, .slice a zs.length c]] w fun e w' => e = .returned (.bool (nestB zs zs.length && famIn m zs)) ∧ Below w.heap.size w w' := by
  obtain ⟨W1, hW1, q0, hs1, hb1⟩ : ∃ W1, w.alloc (.cells #[.int .i64 m, .slice a zs.length c] 27) = W1 ∧ HasBlk W1 w.heap.size #[.int .i64 m, .slice a zs.length c] 27 ∧ W1.heap.size = w.heap.size + 1 ∧ Below w.heap.size w W1 :=
    ⟨_, rfl, alloc_new w _, by simp, below1 w _⟩
  have X0 := Lib.hid ((blk_cell q0 0).trans (cell2_0 _ _))
  have X1 := Lib.hid ((blk_cell q0 1).trans (cell2_1 _ _))
  have HI1 := Lib.hid ((ha.below hb1).mono (show w.heap.size ≤ W1.heap.size by omega))
  have HB := Lib.hid hb1
  have hw1 : w.heap.size < W1.heap.size := by omega
  obtain ⟨n, hn⟩ : ∃ n, n = zs.length := ⟨_, rfl⟩
  have HN := Lib.hid hn
  rw [← hn] at X1 hx hW1 ⊢
  have HFI : Hid (∀ W, Ints W W.heap.size a zs → Calls Try.prog 10 #[.agg #[.int .i64 m, .slice a n c]] W fun e W' => e = .returned (.bool (famIn m zs)) ∧ Below W.heap.size W W') := Lib.hid fun W h => by rw [hn]; exact specFamilyIn_any m a c zs W h (by rw [← hn]; exact hx)
  obtain ⟨K, hK⟩ : ∃ K, K = famIn m zs := ⟨_, rfl⟩
  rw [← hK] at HFI ⊢
  obtain ⟨R, hR⟩ : ∃ R, R = (nestB zs n && K) := ⟨_, rfl⟩
  rw [← hR]
  have HR' := Lib.hid hR
  clear ha q0 hb1 hs1 hn hK hR
  go_enter Try.func5, Try.ntmps5
  go_wp2
  try rw [hW1]
  clear hW1
  go_loopg [3, 4, 5] n (fun g s3 s4 s5 wr => ∃ i : Nat, i + g = n ∧ s3 = .int .i64 (i : Int) ∧ Hid (nestB zs i = true) ∧ ∃ q, wr = W1.drewN q)
  case atStart => exact ⟨0, by omega, rfl, rfl, 0, rfl⟩
  case round =>
    obtain ⟨i, hig, rfl, HNB, q, rfl⟩ := hrel
    have x0 := X0.out
    have x1 := X1.out
    cases gk with
    | zero =>
      obtain rfl : i = n := by omega
      have HRK : Hid (K = R) := Lib.hid (by rw [HR'.out, HNB.out, Bool.true_and])
      have HI2 : Hid (Ints (W1.drewN q) (W1.drewN q).heap.size a zs) := Lib.hid HI1.out
      go_wp2_with fail
      refine (HFI.out _ HI2.out).mono ?_
      rintro e w9 ⟨rfl, hb9⟩
      have HR := Lib.hid ((below_drewN HB.out q).trans (hb9.mono (show w.heap.size ≤ W1.heap.size by omega)))
      clear hb9
      go_wp2
      go_ret
      exact ⟨by rw [← HRK.out]; rfl, HR.out⟩
    | succ g =>
      have hin : i < n := by omega
      have hii : (i : Int) < (n : Int) := by omega
      have hi0 : (0 : Int) ≤ (i : Int) := by omega
      obtain ⟨b, o, rfl, hbb, hci⟩ := HI1.out.at_ (k := i) (by rw [← HN.out]; exact hin)
      obtain ⟨x, hx'⟩ : ∃ x, x = zs[i]?.getD 0 := ⟨_, rfl⟩
      have HX := Lib.hid hx'
      rw [← hx'] at hci
      clear hx'
      go_wp2
      go_loopg [4, 5] i (fun g2 s4 s5 wr => ∃ k : Nat, k + g2 = i ∧ s4 = .int .i64 (k : Int) ∧ Hid (rowB zs i k = true) ∧ ∃ q, wr = W1.drewN q)
      case atStart => exact ⟨0, by omega, rfl, rfl, _, rfl⟩
      case round =>
        obtain ⟨k, hkg, rfl, HRB, q2, rfl⟩ := hrel
        cases gk with
        | zero =>
          obtain rfl : k = i := by omega
          have HNX : Hid (nestB zs (k + 1) = true) := Lib.hid (by rw [nestB_succ, HNB.out, HRB.out]; rfl)
          go_wp2
          go_roundg g
          case measure => omega
          case rel => exact ⟨k + 1, by omega, by go_num, HNX.out, _, rfl⟩
        | succ g2 =>
          have hki : (k : Int) < (i : Int) := by omega
          have hk0 : (0 : Int) ≤ (k : Int) := by omega
          have hkn : (k : Int) < (n : Int) := by omega
          obtain ⟨b2, o2, he, hb2, hck⟩ := HI1.out.at_ (k := k) (by rw [← HN.out]; omega)
          injection he with he
          injection he with he1 he2
          subst he1; subst he2
          obtain ⟨y, hy'⟩ : ∃ y, y = zs[k]?.getD 0 := ⟨_, rfl⟩
          have HY := Lib.hid hy'
          rw [← hy'] at hck
          clear hy'
          have HC := Lib.hid (show crossB x y = ((bits .and .i64 x y != 0) && ((bits .and .i64 x y != x) && (bits .and .i64 x y != y))) from rfl)
          obtain ⟨B, hB⟩ : ∃ B, B = bits .and .i64 x y := ⟨_, rfl⟩
          rw [← hB] at HC
          have hBs : bits .and .i64 x y = B := hB.symm
          have HRN : Hid (crossB x y = false → rowB zs i (k + 1) = true) := Lib.hid fun h => by rw [rowB_succ, HRB.out, ← HX.out, ← HY.out, h]; rfl
          have HNO : Hid (crossB x y = true → nestB zs n = false) := Lib.hid fun h => nestB_no (j := k) hin (by omega) (by rw [← HX.out, ← HY.out]; exact h)
          clear hB
          cases h1 : (B != 0)
          · have HF : Hid (rowB zs i (k + 1) = true) := Lib.hid (HRN.out (by rw [HC.out, h1]; rfl))
            go_wp2
            go_quiet (fail)
            go_wp2
            go_roundg g2
            case measure => omega
            case rel => exact ⟨k + 1, by omega, by go_num, HF.out, _, rfl⟩
          · cases h2 : (B != x)
            · have HF : Hid (rowB zs i (k + 1) = true) := Lib.hid (HRN.out (by rw [HC.out, h1, h2]; rfl))
              go_wp2
              go_quiet (fail)
              go_wp2
              go_roundg g2
              case measure => omega
              case rel => exact ⟨k + 1, by omega, by go_num, HF.out, _, rfl⟩
            · cases h3 : (B != y)
              · have HF : Hid (rowB zs i (k + 1) = true) := Lib.hid (HRN.out (by rw [HC.out, h1, h2, h3]; rfl))
                go_wp2
                go_quiet (fail)
                go_wp2
                go_roundg g2
                case measure => omega
                case rel => exact ⟨k + 1, by omega, by go_num, HF.out, _, rfl⟩
              · have HF : Hid (false = R) := Lib.hid (by rw [HR'.out, HNO.out (by rw [HC.out, h1, h2, h3]; rfl), Bool.false_and])
                go_wp2
                go_quiet (fail)
                go_wp2
                go_ret
                exact ⟨by rw [← HF.out]; rfl, below_drewN HB.out _⟩

theorem meetsI_any (c d : Int) (w : World) : Calls Try.prog 14 #[.int .i64 c, .int .i64 d] w fun e w' => e = .returned (.bool (bits .and .i64 c d != 0)) ∧ w = w' := by
  go_enter Try.func14, Try.ntmps14
  go_wp2
  go_ret
  exact ⟨rfl, rfl⟩

set_option maxRecDepth 100000 in
theorem cross_fin : ∀ x y : Fin 64, crossB (x.val : Int) (y.val : Int) = ((bits .and .i64 (x.val : Int) (y.val : Int) != 0) && (!leG (x.val : Int) (y.val : Int) && !leG (y.val : Int) (x.val : Int))) := by decide +kernel

theorem cross_le {x y : Int} (hx0 : 0 ≤ x) (hx : x.toNat < 64) (hy0 : 0 ≤ y) (hy : y.toNat < 64) : crossB x y = ((bits .and .i64 x y != 0) && (!leG x y && !leG y x)) := by
  have := cross_fin ⟨x.toNat, hx⟩ ⟨y.toNat, hy⟩
  simp only [Int.toNat_of_nonneg hx0, Int.toNat_of_nonneg hy0] at this
  exact this

/-- A club at its place. -/
def AtZ (zs : List Int) (p : Nat × Int) : Prop := p.1 < zs.length ∧ p.2 = zs[p.1]?.getD 0

set_option maxRecDepth 100000 in
set_option maxHeartbeats 4000000 in
theorem implNested_yes (m : Int) (a : Option Addr) (c : Nat) (zs : List Int) (w : World) (ha : Ints w w.heap.size a zs) (hx : zs.length ≤ 1048576) (hcap : zs.length ≤ c) (hf : famIn m zs = true) :
    Calls Try.prog 7 #[.agg #[.int .i64 m, .slice a zs.length c]] w fun e w' => e = .returned (.bool (nestB zs zs.length)) ∧ Below w.heap.size w w' := by
  have HB0 := Lib.hid (below2 w (.cells #[.int .i64 m, .slice a zs.length c] 27) (.cells #[.bool false] 4))
  have HA := Lib.hid ((ha.below HB0.out).mono (B' := ((w.alloc (.cells #[.int .i64 m, .slice a zs.length c] 27)).alloc (.cells #[.bool false] 4)).heap.size) (by simp; omega))
  have HI := Lib.hid ha
  have HF := Lib.hid hf
  have HS : Hid (∀ z ∈ zs, 0 ≤ z ∧ z.toNat < 64) := Lib.hid (by obtain ⟨k, -, -, h6, hs, -⟩ := fam_nat2 hf; exact fun z hz => ⟨(hs z hz).1, p64 h6 (hs z hz).2⟩)
  clear hf ha
  refine (callsIn_wide (n := 6)).1 ?_
  refine callsIn_of_wp_marks Try.func7 rfl trivial ?_ rfl
  simp only [Try.ntmps7, List.size_toArray, List.length_cons, List.length_nil, Nat.reduceAdd, Nat.reduceSub, Array.replicate_succ, Array.replicate_zero, List.push_toArray, List.append_toArray, List.nil_append, List.cons_append]
  gi_wp2_with fail
  refine ⟨trivial, (callsIn_wide.2 (implFamilyIn_any _ _ _ zs _ HA.out hx)).mono ?_⟩
  rintro e w1 ⟨rfl, hb⟩
  rw [HF.out]
  have q0 : HasBlk w1 w.heap.size #[.int .i64 m, .slice a zs.length c] 27 := (hb.block _ (by simp; omega)).trans (alloc2_0 w _ _)
  have q1 : HasBlk w1 (w.heap.size + 1) #[.bool false] 4 := (hb.block _ (by simp)).trans (alloc2_1 w _ _)
  have x0 := (blk_cell q0 0).trans (cell2_0 _ _)
  have x1 := (blk_cell q0 1).trans (cell2_1 _ _)
  have Q0 := Lib.hid q0
  have Q1 := Lib.hid q1
  have hs1 : w.heap.size + 1 < w1.heap.size := lt_of_some q1
  have HB := Lib.hid (HB0.out.trans (hb.mono (by simp; omega)))
  clear hb q0 q1
  gi_wp2_with (refine ⟨trivial, ?_⟩; gi_at_call 13; refine (callsIn_wide.2 (clubs_any _ _ _ _ _)).mono ?_; rintro e w' ⟨rfl, rfl⟩)
  have h16 : 1 ≤ 6 := by omega
  have HBB : Hid (Below w.heap.size w (w1.alloc (.cells #[.int .i64 m, .slice a zs.length c] 27))) := Lib.hid (HB.out.alloc (by omega) _)
  have hst := clubsP_stops (AtZ zs) (6 - 1) (by omega) w1.heap.size w.heap.size a c zs hx (fun k hk => ⟨hk, rfl⟩) (w1.alloc (.cells #[.int .i64 m, .slice a zs.length c] 27)) (by simp) (by simp; omega)
    ((blk_cell (alloc_new w1 _) 1).trans (cell2_1 _ _)) (HI.out.below HBB.out)
  have R0 : HasBlk (w1.alloc (.cells #[.int .i64 m, .slice a zs.length c] 27)) w.heap.size #[.int .i64 m, .slice a zs.length c] 27 := HasBlk.alloc Q0.out _
  have R1 : HasBlk (w1.alloc (.cells #[.int .i64 m, .slice a zs.length c] 27)) (w.heap.size + 1) #[.bool false] 4 := HasBlk.alloc Q1.out _
  have HR0 := Lib.hid R0
  have HR1 := Lib.hid R1
  clear R0 R1 x0 x1
  refine wpIn_rangeFunc_ownG rfl h16 (gf := 20) (lb := #[.pointer (some ⟨w1.heap.size, 0, none⟩)]) rfl trivial (enters_of Try.func20 (by kernel_rfl) rfl)
    hst belowK_t (belowK_b (by simp; omega)) (Below.refl _ _) (fun _ => rfl)
    (fun pre W => ((∀ p ∈ pre, rowB zs p.1.1 p.1.1 = true) ∧ HasBlk W w.heap.size #[.int .i64 m, .slice a zs.length c] 27 ∧ HasBlk W (w.heap.size + 1) #[.bool false] 4) ∧ Below w.heap.size w W)
    (fun c' pre W => (c' = .ret ∧ nestB zs zs.length = false ∧ HasBlk W (w.heap.size + 1) #[.bool false] 4) ∧ Below w.heap.size w W)
    (OwnFrom.and (Own.from (fun s A B row hs hg hr => ⟨hs.1, hasBlk_own w.heap.size _ 27 s A B row hs.2.1 hg hr, hasBlk_own (w.heap.size + 1) _ 4 s A B row hs.2.2 hg hr⟩) _) (ownFrom_below (Nat.le_refl _) (by simp; omega)))
    (fun c' => OwnFrom.and (Own.from (fun s A B row hs hg hr => ⟨hs.1, hs.2.1, hasBlk_own (w.heap.size + 1) _ 4 s A B row hs.2.2 hg hr⟩) _) (ownFrom_below (Nat.le_refl _) (by simp; omega)))
    ⟨⟨by simp, HR0.out, HR1.out⟩, HBB.out⟩
    (fun x => { tmps := #[.agg #[.int .i64 m, .slice a zs.length c], .pointer (some ⟨w.heap.size, 0, none⟩), .pointer (some ⟨w.heap.size + 1, 0, none⟩), .int .i64 (x.1.1 : Int), .int .i64 x.1.2, undef, undef, undef, .agg #[.int .i64 m, .slice a zs.length c], .bool true, .bool false, .agg #[.int .i64 m, .slice a zs.length c], .func (.func 20) #[] #[.pointer (some ⟨w1.heap.size, 0, none⟩)], .int .i64 (x.1.1 : Int), .int .i64 x.1.2, undef, undef, undef, undef, undef, undef, undef, undef, undef, undef, undef, undef, undef, undef, undef, undef, undef, undef, undef, undef, undef, undef, undef, undef, undef, undef], defers := [] }) ?assign ?body ?done ?stop
  case assign =>
    intro l x W K hK
    gi_wp2
    exact hK
  case body =>
    rintro l pre x W ⟨⟨hp, q0, q1⟩, hB⟩ _
    have HPq := Lib.hid q0
    have HPr := Lib.hid q1
    have HBW := Lib.hid hB
    have HPP := Lib.hid hp
    have x1 := (blk_cell q0 1).trans (cell2_1 _ _)
    have d0 := (blk_cell q1 0).trans (cell1_0 _)
    have f0 := blk_frozen q1 0
    have hpl : x.1.1 < zs.length := x.2.1
    obtain ⟨X, hX⟩ : ∃ X, X = x.1.2 := ⟨_, rfl⟩
    obtain ⟨P, hP⟩ : ∃ P, P = x.1.1 := ⟨_, rfl⟩
    have HX : Hid (X = zs[P]?.getD 0) := Lib.hid (by rw [hX, hP]; exact x.2.2)
    have HPx := Lib.hid hP
    rw [← hX, ← hP]
    rw [← hP] at hpl
    have hX64 : 0 ≤ X ∧ X.toNat < 64 := by rw [HX.out]; exact HS.out _ (at_in hpl)
    have HX6 := Lib.hid hX64
    have hP0 : (0 : Int) ≤ (P : Int) := by omega
    have hPc : (P : Int) ≤ (c : Int) := by omega
    have hWs : w.heap.size ≤ W.heap.size := hB.size
    clear hp q0 q1 hB hX hP hX64
    gi_wp2
    gi_loopw [6, 7, 20] (fun s6 s7 i wr => ∃ k : Nat, k ≤ P ∧ i = .int .i64 (k : Int) ∧ Hid (rowB zs P k = true) ∧ W = wr) (fun _ _ i _ => P - (intOf i).toNat)
    case atStart => exact ⟨0, Nat.zero_le _, rfl, rfl, rfl⟩
    case round =>
      obtain ⟨k, hk, rfl, HRB, rfl⟩ := hrel
      by_cases hlt : k < P
      · have hkP : (k : Int) < (P : Int) := by omega
        have hk0 : (0 : Int) ≤ (k : Int) := by omega
        obtain ⟨b, o, rfl, hb, hck⟩ := (HI.out.below HBW.out).at_ (k := k) (by omega)
        obtain ⟨y, hy'⟩ : ∃ y, y = zs[k]?.getD 0 := ⟨_, rfl⟩
        have HY := Lib.hid hy'
        have hy64 := HS.out _ (at_in (xs := zs) (k := k) (by omega))
        rw [← hy'] at hck hy64
        clear hy'
        have HC : Hid (crossB X y = ((bits .and .i64 X y != 0) && (!leG X y && !leG y X))) := Lib.hid (cross_le HX6.out.1 HX6.out.2 hy64.1 hy64.2)
        clear hy64
        cases h1 : (bits .and .i64 X y != 0)
        · have H1 := Lib.hid h1
          clear h1
          have HN : Hid (rowB zs P (k + 1) = true) := Lib.hid (by rw [rowB_succ, HRB.out, ← HX.out, ← HY.out, HC.out, H1.out]; rfl)
          gi_wp2_with (first
            | (refine ⟨trivial, ?_⟩; gi_at_call 14; refine (CallsIn.inRound l (callsIn_wide.2 (meetsI_any _ _ _))).mono ?_; rintro e w2 ⟨rfl, rfl⟩; rw [H1.out])
            | (refine ⟨trivial, ?_⟩; gi_at_call 15; (with_reducible refine (CallsIn.inRound l (callsIn_wide.2 (partOf_any X y _))).mono ?_); rintro e w2 ⟨rfl, rfl⟩; rw [H1.out])
            | (refine ⟨trivial, ?_⟩; gi_at_call 15; (with_reducible refine (CallsIn.inRound l (callsIn_wide.2 (partOf_any y X _))).mono ?_); rintro e w2 ⟨rfl, rfl⟩; rw [H1.out]))
          refine ⟨trivial, ?_⟩
          gi_wp2
          refine ⟨trivial, ?_⟩
          gi_wp2
          go_roundw
          case rel => first | trivial | exact ⟨k + 1, by omega, by go_num, HN.out, rfl⟩ | exact ⟨k + 1, by omega, by go_num, HN.out, trivial⟩
          case measure => simp [intOf]; omega
        · have H1 := Lib.hid h1
          clear h1
          cases h2 : leG X y
          · have H2 := Lib.hid h2
            clear h2
            cases h3 : leG y X
            · have H3 := Lib.hid h3
              clear h3
              have HNO : Hid (nestB zs zs.length = false) := Lib.hid (nestB_no (i := P) (j := k) hpl hlt (by rw [← HX.out, ← HY.out, HC.out, H1.out, H2.out, H3.out]; rfl))
              gi_wp2_with (first
                | (refine ⟨trivial, ?_⟩; gi_at_call 14; refine (CallsIn.inRound l (callsIn_wide.2 (meetsI_any _ _ _))).mono ?_; rintro e w2 ⟨rfl, rfl⟩; rw [H1.out])
                | (refine ⟨trivial, ?_⟩; gi_at_call 15; (with_reducible refine (CallsIn.inRound l (callsIn_wide.2 (partOf_any X y _))).mono ?_); rintro e w2 ⟨rfl, rfl⟩; rw [H2.out])
                | (refine ⟨trivial, ?_⟩; gi_at_call 15; (with_reducible refine (CallsIn.inRound l (callsIn_wide.2 (partOf_any y X _))).mono ?_); rintro e w2 ⟨rfl, rfl⟩; rw [H3.out]))
              exact ⟨(KeepsOthers.setCell _ _ _).from _, ⟨rfl, HNO.out, heap_setCell_same _ (w.heap.size + 1) 0 _ 4 (.bool false) HPr.out⟩, HBW.out.setCell (p := ⟨w.heap.size + 1, 0, none⟩) (by simp) _⟩
            · have H3 := Lib.hid h3
              clear h3
              have HN : Hid (rowB zs P (k + 1) = true) := Lib.hid (by rw [rowB_succ, HRB.out, ← HX.out, ← HY.out, HC.out, H1.out, H2.out, H3.out]; rfl)
              gi_wp2_with (first
                | (refine ⟨trivial, ?_⟩; gi_at_call 14; refine (CallsIn.inRound l (callsIn_wide.2 (meetsI_any _ _ _))).mono ?_; rintro e w2 ⟨rfl, rfl⟩; rw [H1.out])
                | (refine ⟨trivial, ?_⟩; gi_at_call 15; (with_reducible refine (CallsIn.inRound l (callsIn_wide.2 (partOf_any X y _))).mono ?_); rintro e w2 ⟨rfl, rfl⟩; rw [H2.out])
                | (refine ⟨trivial, ?_⟩; gi_at_call 15; (with_reducible refine (CallsIn.inRound l (callsIn_wide.2 (partOf_any y X _))).mono ?_); rintro e w2 ⟨rfl, rfl⟩; rw [H3.out]))
              try gi_wp2
              go_roundw
              case rel => first | trivial | exact ⟨k + 1, by omega, by go_num, HN.out, rfl⟩ | exact ⟨k + 1, by omega, by go_num, HN.out, trivial⟩
              case measure => simp [intOf]; omega
          · have H2 := Lib.hid h2
            clear h2
            have HN : Hid (rowB zs P (k + 1) = true) := Lib.hid (by rw [rowB_succ, HRB.out, ← HX.out, ← HY.out, HC.out, H1.out, H2.out]; rfl)
            gi_wp2_with (first
              | (refine ⟨trivial, ?_⟩; gi_at_call 14; refine (CallsIn.inRound l (callsIn_wide.2 (meetsI_any _ _ _))).mono ?_; rintro e w2 ⟨rfl, rfl⟩; rw [H1.out])
              | (refine ⟨trivial, ?_⟩; gi_at_call 15; (with_reducible refine (CallsIn.inRound l (callsIn_wide.2 (partOf_any X y _))).mono ?_); rintro e w2 ⟨rfl, rfl⟩; rw [H2.out])
              | (refine ⟨trivial, ?_⟩; gi_at_call 15; (with_reducible refine (CallsIn.inRound l (callsIn_wide.2 (partOf_any y X _))).mono ?_); rintro e w2 ⟨rfl, rfl⟩; rw [H2.out]))
            refine ⟨trivial, ?_⟩
            gi_wp2
            go_roundw
            case rel => first | trivial | exact ⟨k + 1, by omega, by go_num, HN.out, rfl⟩ | exact ⟨k + 1, by omega, by go_num, HN.out, trivial⟩
            case measure => simp [intOf]; omega
      · obtain rfl : k = P := by omega
        gi_wp2
        refine ⟨(KeepsOthers.refl _).from _, Below.refl _ _, ⟨fun p hp => (List.mem_append.1 hp).elim (HPP.out p) (fun e => by rw [List.mem_singleton.1 e, ← HPx.out]; exact HRB.out), HPq.out, HPr.out⟩, HBW.out⟩
  case done =>
    rintro D ys W hD hys ⟨⟨hp, q0, q1⟩, hB⟩ hK
    have d0 := (blk_cell q1 0).trans (cell1_0 _)
    have f0 := blk_frozen q1 0
    have HNB : Hid (nestB zs zs.length = true) := Lib.hid (by
      unfold nestB
      rw [List.all_eq_true]
      intro i hi
      have hi' := List.mem_range.1 hi
      have hm : (i, zs[i]?.getD 0) ∈ ys.map (·.1) := by
        rw [hys]
        exact List.mem_iff_getElem?.2 ⟨i, by simp [pairs, hi']⟩
      obtain ⟨p, hpm, hpe⟩ := List.mem_map.1 hm
      have := hp p hpm
      rw [hpe] at this
      exact this)
    have HBW := Lib.hid hB
    have HQ1 := Lib.hid q1
    clear hp q0 q1 hB
    gi_wp2
    have hK' := (KeepsOthers.setCell W ⟨w.heap.size + 1, 0, none⟩ (.bool true)).same D _ hK rfl
    refine ⟨by simp, .inl ⟨_, _, rfl, run_takeDeferred hK', ?_⟩⟩
    have hc5 := cell_kept (World.cell?_setCell_same' W ⟨w.heap.size + 1, 0, none⟩ (.bool true) (by rw [d0]; rfl)) (grownBy_putObj' _ D (.deferred none)) (fun r e => by cases e; exact ⟨_, hK', rfl⟩)
    refine ⟨.bool true, by simp [results, Try.f7, go_sem, hc5], ?_, (HBW.out.setCell (p := ⟨w.heap.size + 1, 0, none⟩) (by simp) _).trans (belowK_b (w := w) (Nat.le_refl _) _ D _ _ (by simp at hD; omega) hK' rfl rfl)⟩
    rw [HNB.out]
  case stop =>
    rintro D c' pre W hD ⟨k, hk, hpre⟩ ⟨⟨rfl, hno, q1⟩, hB⟩ hK
    have d0 := (blk_cell q1 0).trans (cell1_0 _)
    have HBW := Lib.hid hB
    clear hB hpre
    gi_wp2
    refine ⟨by simp, .inl ⟨_, _, rfl, run_takeDeferred hK, ?_⟩⟩
    have hc5 := cell_kept d0 (grownBy_putObj' _ D (.deferred none)) (fun r e => by cases e; exact ⟨_, hK, rfl⟩)
    refine ⟨.bool false, by simp [results, Try.f7, go_sem, hc5], ?_, HBW.out.trans (belowK_b (w := w) (Nat.le_refl _) W D _ _ (by simp at hD; omega) hK rfl rfl)⟩
    rfl

set_option maxRecDepth 100000 in
set_option maxHeartbeats 1600000 in
theorem implNested_any (m : Int) (a : Option Addr) (c : Nat) (zs : List Int) (w : World) (ha : Ints w w.heap.size a zs) (hx : zs.length ≤ 1048576) (hcap : zs.length ≤ c) :
    Calls Try.prog 7 #[.agg #[.int .i64 m, .slice a zs.length c]] w fun e w' => e = .returned (.bool (nestB zs zs.length && famIn m zs)) ∧ Below w.heap.size w w' := by
  cases hf : famIn m zs
  · rw [Bool.and_false]
    have HB0 := Lib.hid (below2 w (.cells #[.int .i64 m, .slice a zs.length c] 27) (.cells #[.bool false] 4))
    have HA := Lib.hid (ha.below HB0.out)
    have HF := Lib.hid hf
    clear hf ha
    go_enter Try.func7, Try.ntmps7
    go_wp2_with fail
    refine (implFamilyIn_any _ _ _ zs _ (HA.out.mono (by simp; omega)) hx).mono ?_
    rintro e w1 ⟨rfl, hb⟩
    rw [HF.out]
    have b2 : w1.heap[w.heap.size + 1]? = some (.cells #[.bool false] 4 (0, 0)) := (hb.block _ (by simp)).trans (alloc2_1 w _ _)
    have d0 := (blk_cell b2 0).trans (cell1_0 _)
    have f0 := blk_frozen b2 0
    have HB := Lib.hid (HB0.out.trans (hb.mono (by simp; omega)))
    clear hb b2
    go_wp2
    refine bodyPost_ret (v := .bool false) (by simp [results, Try.results7, go_sem, d0]) rfl ?_
    exact ⟨rfl, HB.out.setCell (p := ⟨w.heap.size + 1, 0, none⟩) (by simp) _⟩
  · rw [Bool.and_true]
    exact implNested_yes m a c zs w ha hx hcap hf

end Go.Proofs.Ytidbkegnngfpiaa
