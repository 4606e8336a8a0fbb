/- It is proved what SpeakerLines of the program and of the reference model returns; conditions: those of each statement. -/
import Derived.Shelf.RegionOpen
import Derived.RowKit
import Derived.Laws.CopyRow
import Derived.Lib.SlBuf
import Derived.Deep.QuietTactic
import Derived.RangeFuncNested
import Derived.RangeFuncBound
import Derived.RangeFuncCalls
import Derived.RangeFuncLeaves
import Derived.RangeFuncBox
import Derived.RangeFuncWrites
import Derived.StillTailTactics
import Derived.Maps.OwnIn
import Derived.Maps.Ext
import Derived.DeepKeys4
import Derived.MapKept
import Derived.Test.YtnkedijlddakbaaDoorRows
import Derived.WalkKit
import Derived.WalkSpells
import Derived.ProofKit
import Derived.OpenShut
import Derived.ShutString
import Derived.ChangeOld
import Derived.Below
import Derived.Deep.RegionHeld3
import Derived.BigQuiet
import Derived.Lib.Hide
import Derived.Lib.SmallJoins
import Derived.Outline
import Derived.Laws.MakeOwn
import Derived.Laws.OwnMore
import Derived.IntWalk
import Derived.Lib.AppendZeros
import Derived.Maps.AppendAt
import Derived.Deep.AppendLies
import Derived.OwnWalk
import Derived.Lib.SlicesCompact
import Derived.Lib.OwnBridge
import Derived.OrdersIn
import Derived.TacticsIn
import Derived.Shelf.Sort.Plain
import Derived.Shelf.Slices.In.SortNone
import Derived.Shelf.Slices.CompactI
import Derived.Ground.Names2Prog
import Derived.Lib.SliceRun
import Derived.Shelf.Abstract
import Derived.OwnWalkIn
import Derived.TacticsInMore
import Derived.LoopNIn
import Derived.LoopIn
import Derived.StillTail
import Derived.StillTactics
import Derived.Shelf.Spec.TrailingZeros
import Derived.Test.YtnkedijlddakbaaDoorMraa
import Derived.Test.YtnkedijlddakbaaDoorMrab
import Derived.Test.YtnkedijlddakbaaDoorMrad
import Derived.Test.YtnkedijlddakbaaDoorHd
import Derived.Test.YtnkedijlddakbaaDoorHg
import Derived.Test.YtnkedijlddakbaaDoorMrae
import Derived.Test.YtnkedijlddakbaaDoorMrag
import Derived.Test.YtnkedijlddakbaaDoorMrah
import Derived.Test.YtnkedijlddakbaaDoorMk
import Derived.Test.YtnkedijlddakbaaDoorMrac
import Derived.Test.YtnkedijlddakbaaDoorMraq
import Derived.Test.YtnkedijlddakbaaDoorMraf
namespace Go.Proofs.YtnkedijlddakbaaDoor
open Go.RowKit Go.Shelf

attribute [local go_sem] Oper.semAt_some

/-- The least of some numbers, or one told. -/
def minF (zs : List Int) (b : Nat) (ts : List Nat) : Nat := ts.foldl (fun b t => min b (linN zs t)) b

theorem minF_snoc (zs : List Int) (b : Nat) (ts : List Nat) (t : Nat) : minF zs b (ts ++ [t]) = min (minF zs b ts) (linN zs t) := by simp [minF]
theorem minF_le (zs : List Int) : ∀ (ts : List Nat) (b : Nat), minF zs b ts ≤ b ∧ ∀ t ∈ ts, minF zs b ts ≤ linN zs t
  | [], b => ⟨Nat.le_refl _, fun t h => by cases h⟩
  | u :: ts, b => by
    obtain ⟨h1, h2⟩ := minF_le zs ts (min b (linN zs u))
    rw [show minF zs b (u :: ts) = minF zs (min b (linN zs u)) ts from rfl]
    refine ⟨by omega, fun t ht => ?_⟩
    rcases List.mem_cons.1 ht with rfl | ht
    · omega
    · exact h2 t ht

theorem minF_is (zs : List Int) : ∀ (ts : List Nat) (b : Nat), minF zs b ts = b ∨ ∃ t ∈ ts, minF zs b ts = linN zs t
  | [], b => .inl rfl
  | u :: ts, b => by
    rw [show minF zs b (u :: ts) = minF zs (min b (linN zs u)) ts from rfl]
    rcases minF_is zs ts (min b (linN zs u)) with h | ⟨t, ht, h⟩
    · by_cases e : b ≤ linN zs u
      · exact .inl (by omega)
      · exact .inr ⟨u, List.mem_cons_self .., by omega⟩
    · exact .inr ⟨t, List.mem_cons_of_mem _ ht, h⟩

theorem minF_same {zs : List Int} {ts : List Nat} {b b' : Nat} (h : ∃ t ∈ ts, linN zs t ≤ b) (h' : ∃ t ∈ ts, linN zs t ≤ b') : minF zs b ts = minF zs b' ts := by
  obtain ⟨t, ht, hb⟩ := h
  obtain ⟨t', ht', hb'⟩ := h'
  obtain ⟨g1, g2⟩ := minF_le zs ts b
  obtain ⟨g1', g2'⟩ := minF_le zs ts b'
  have k1 := g2 t ht
  have k2 := g2' t' ht'
  rcases minF_is zs ts b with e | ⟨u, hu, e⟩
  · rcases minF_is zs ts b' with e' | ⟨u', hu', e'⟩
    · have := g2 t' ht'; have := g2' t ht; omega
    · have := g2 u' hu'; have := g2' t ht; omega
  · rcases minF_is zs ts b' with e' | ⟨u', hu', e'⟩
    · have := g2 t' ht'; have := g2' u hu; omega
    · have := g2 u' hu'; have := g2' u hu; omega

theorem linN_le {zs : List Int} (h8 : zs.length ≤ 8) (t : Nat) : linN zs t ≤ 16 := by
  have h1 := memK_len 8 t
  have h2 := outN_le zs t
  unfold linN
  omega

theorem minF_small {zs : List Int} (ts : List Nat) {b : Nat} (hb : b ≤ 16) : minF zs b ts ≤ 16 := Nat.le_trans (minF_le zs ts b).1 hb
theorem linN_zero (zs : List Int) : linN zs 0 ≤ zs.length := by
  have h1 : (memK 8 0).length = 0 := by decide
  have h2 := outN_le zs 0
  unfold linN
  omega

def linL (k : Nat) (zs : List Int) : Nat := minF zs zs.length (List.range (2 ^ k))
theorem linL_full {k : Nat} (zs : List Int) : minF zs (linN zs (2 ^ k - 1)) (List.range (2 ^ k)) = linL k zs := by
  have hp := Nat.two_pow_pos k
  exact minF_same ⟨2 ^ k - 1, List.mem_range.2 (by omega), Nat.le_refl _⟩ ⟨0, List.mem_range.2 hp, linN_zero zs⟩

def linZ (m : Int) (zs : List Int) : Int := if famIn m zs then ((linL m.toNat zs : Nat) : Int) else 0
theorem arr6 (l : Array Bool) (h : l.size = 6) : ∃ l0 l1 l2 l3 l4 l5, l = #[l0, l1, l2, l3, l4, l5] := by
  obtain ⟨L⟩ := l
  match L, h with
  | [l0, l1, l2, l3, l4, l5], _ => exact ⟨_, _, _, _, _, _, rfl⟩

set_option maxRecDepth 100000 in
set_option maxHeartbeats 8000000 in
theorem implSpeakerLines_any (m : Int) (a : Option Addr) (c : Nat) (zs : List Int) (w : World) (ha : Ints w w.heap.size a zs) (hx : zs.length ≤ 1048576) :
    Calls Tryd.prog 16 #[.agg #[.int .i64 m, .slice a zs.length c]] w (RetIB w (linZ m zs) (famIn m zs)) := by
  have HB0 := Lib.hid (below1 w (.cells #[.int .i64 m, .slice a zs.length c] 25))
  have HA := Lib.hid (ha.below HB0.out)
  have HA0 := Lib.hid ha
  clear ha
  unfold linZ
  cases hf : famIn m zs
  · have HF := Lib.hid hf
    clear hf
    go_enter Tryd.func16, Tryd.ntmps16
    go_wp2_with fail
    refine (implFamilyIn_any _ _ _ zs _ (HA.out.mono (by simp)) hx).mono ?_
    rintro e w1 ⟨rfl, hb⟩
    rw [HF.out]
    have HB := Lib.hid (HB0.out.trans (hb.mono (by simp)))
    clear hb
    go_wp2
    go_ret2
    exact ⟨rfl, HB.out⟩
  · have HF := Lib.hid hf
    obtain ⟨k, rfl, hk1, hk6, hset, hl8⟩ := fam_nat2 hf
    have hk1I : (1 : Int) ≤ (k : Int) := by omega
    have hk6I : (k : Int) ≤ 6 := by omega
    have hp64 : 2 ^ k ≤ 64 := Nat.pow_le_pow_right (n := 2) (by decide) hk6
    have hpp : 0 < 2 ^ k := Nat.two_pow_pos k
    have HFU : Hid (fullI (k : Int) = ((2 ^ k - 1 : Nat) : Int)) := Lib.hid (by unfold fullI; rw [cast_full]; simp)
    have HZ : Hid (linL ((k : Int)).toNat zs = minF zs (linN zs (2 ^ k - 1)) (List.range (2 ^ k))) := Lib.hid (by rw [Int.toNat_natCast, linL_full])
    have HFI := Lib.hid (implFamilyIn_any (k : Int) a c zs _ (HA.out.mono (show w.heap.size ≤ (w.alloc (.cells #[.int .i64 (k : Int), .slice a zs.length c] 25)).heap.size by simp)) hx)
    have h16 : 1 ≤ 6 := by omega
    have hmx : Tryd.prog.follows .mixedOrders = true := by kernel_rfl
    obtain ⟨n, hn⟩ : ∃ n, n = zs.length := ⟨_, rfl⟩
    have HLI : Hid (∀ (t : Nat) W, t < 64 → Ints W W.heap.size a zs → Calls Tryd.prog 37 #[.agg #[.int .i64 (k : Int), .slice a n c], .int .i64 (t : Int)] W fun e w' => e = .returned (.int .i64 ((linN zs t : Nat) : Int)) ∧ Below W.heap.size W w') := Lib.hid (by rw [hn]; exact fun t W ht hi => lines_any k hk6 a c zs t ht W hi hl8 hset)
    have HL16 : Hid (∀ t, linN zs t ≤ 16) := Lib.hid (linN_le hl8)
    rw [← hn] at HA HB0 HFI ⊢
    obtain ⟨N, hN⟩ : ∃ N, N = 2 ^ k := ⟨_, rfl⟩
    have HN := Lib.hid hN
    obtain ⟨FU, hFU⟩ : ∃ FU, FU = 2 ^ k - 1 := ⟨_, rfl⟩
    have hFU64 : FU < 64 := by omega
    have HFN : Hid (FU = 2 ^ k - 1) := Lib.hid hFU
    rw [← hFU] at HFU HZ
    rw [HZ.out]
    obtain ⟨L0, hL0⟩ : ∃ L0, L0 = linN zs FU := ⟨_, rfl⟩
    have hL016 : L0 ≤ 16 := by rw [hL0]; exact HL16.out FU
    have HLF : Hid (∀ W, Ints W W.heap.size a zs → Calls Tryd.prog 37 #[.agg #[.int .i64 (k : Int), .slice a n c], .int .i64 (FU : Int)] W fun e w' => e = .returned (.int .i64 (L0 : Int)) ∧ Below W.heap.size W w') := Lib.hid (by rw [hL0]; exact fun W hi => HLI.out FU W hFU64 hi)
    rw [← hL0]
    clear hf hset hn hp64 hpp hFU hl8 hL0 hN
    refine (callsIn_wide (n := 6)).1 ?_
    refine callsIn_of_wp_marks Tryd.func16 rfl trivial ?_ rfl
    simp only [Tryd.ntmps16, List.size_toArray, List.length_cons, List.length_nil, Nat.reduceAdd, Nat.reduceSub, Array.replicate_succ, Array.replicate_zero, List.push_toArray, List.append_toArray, List.nil_append, List.cons_append]
    gi_wp2_with fail
    refine ⟨trivial, ?_⟩
    refine (callsIn_wide.2 HFI.out).mono ?_
    rintro e w1 ⟨rfl, hb⟩
    rw [HF.out]
    have b0 : w1.heap[w.heap.size]? = some (.cells #[.int .i64 (k : Int), .slice a n c] 25 (0, 0)) := (hb.block _ (by simp)).trans (alloc_new w _)
    have x0 := (blk_cell b0 0).trans (cell2_0 _ _)
    have x1 := (blk_cell b0 1).trans (cell2_1 _ _)
    have z1 : w.heap.size < w1.heap.size := lt_of_some b0
    have HB1 := Lib.hid (HB0.out.trans (hb.mono (by simp)))
    have B0 := Lib.hid b0
    have HI1 : Hid (Ints w1.drew w1.drew.heap.size a zs) := Lib.hid (show Ints w1 w1.heap.size a zs from ((HA.out.below (hb.mono (by simp))).mono (show w.heap.size ≤ w1.heap.size by omega)))
    have HIA : Hid (∀ W, Below w1.heap.size w1 W → Ints W W.heap.size a zs) := Lib.hid (fun W hb => ((show Ints w1 w1.heap.size a zs from HI1.out).below hb).mono hb.size)
    have Z1 := Lib.hid z1
    clear hb b0 z1 x0 x1
    gi_wp2
    refine wpIn_region_kept (I := fun ls a' W' => ∃ X, a' = { tmps := #[.agg #[.int .i64 (k : Int), .slice a n c], .pointer (some ⟨w.heap.size, 0, none⟩), .int .i64 0, .bool false, bif ls.getD 4 false then .pointer (some ⟨X, 0, none⟩) else undef, undef, .agg #[.int .i64 (k : Int), .slice a n c], .bool true, .bool false, bif ls.getD 0 false then .agg #[.int .i64 (k : Int), .slice a n c] else undef, bif ls.getD 1 false then .agg #[.int .i64 (k : Int), .slice a n c] else undef, bif ls.getD 2 false then .int .i64 (FU : Int) else undef, bif ls.getD 3 false then .int .i64 (L0 : Int) else undef, undef, undef, undef, undef, undef, undef, undef, undef, undef, undef], defers := [] } ∧ Below w1.heap.size w1 W' ∧ (ls.getD 4 false = true → w1.heap.size ≤ X ∧ HasBlk W' X #[.int .i64 (bif ls.getD 5 false then (L0 : Int) else 0)] 3) ∧ (ls.getD 5 false = true → ls.getD 4 false = true)) hmx (by kernel_rfl) ⟨0, rfl, (Below.refl _ _).drew, (fun h => by cases h), fun h => by cases h⟩ ?step ?fin
    case step =>
      intro listed a' W' i hsz hi hI
      obtain ⟨X, rfl, hB, hX, h54⟩ := hI
      obtain ⟨l0, l1, l2, l3, l4, l5, rfl⟩ := arr6 listed hsz
      have H54 := Lib.hid h54
      clear h54
      obtain ⟨hi1, hi2⟩ := List.mem_filter.1 hi
      have hi6 : i < 6 := by simpa using hi1
      have b2 := (hB.block _ Z1.out).trans B0.out
      have x0 := (blk_cell b2 0).trans (cell2_0 _ _)
      have x1 := (blk_cell b2 1).trans (cell2_1 _ _)
      have HBW := Lib.hid hB
      have HX := Lib.hid hX
      clear hB b2 hX
      have hcase : i = 0 ∨ i = 1 ∨ i = 2 ∨ i = 3 ∨ i = 4 ∨ i = 5 := by omega
      rcases hcase with rfl | rfl | rfl | rfl | rfl | rfl
      · refine wpOpIn_of_list rfl ?_
        gi_wp2
        exact ⟨X, rfl, HBW.out, HX.out, H54.out⟩
      · refine wpOpIn_of_list rfl ?_
        gi_wp2
        exact ⟨X, rfl, HBW.out, HX.out, H54.out⟩
      · have h1 : l1 = true := by simp [Region.binds] at hi2; simp_all
        subst h1
        refine wpOpIn_of_list rfl ?_
        gi_wp2_with (refine ⟨trivial, ?_⟩; gi_at_call 38; refine (callsIn_wide.2 (full_any (k : Int) a n c _ hk1I hk6I)).mono ?_; rw [HFU.out]; rintro e w' ⟨rfl, rfl⟩)
        exact ⟨X, rfl, HBW.out.trans ((below1 W' _).mono HBW.out.size), (fun h => by obtain ⟨g1, g2⟩ := HX.out h; exact ⟨g1, HasBlk.alloc g2 _⟩), H54.out⟩
      · have h0 : l0 = true := by simp [Region.binds] at hi2; simp_all
        subst h0
        have h2 : l2 = true := by simp [Region.binds] at hi2; simp_all
        subst h2
        have HLC := Lib.hid (HLF.out W' (HIA.out W' HBW.out))
        refine wpOpIn_of_list rfl ?_
        gi_wp2_with (refine ⟨trivial, ?_⟩; gi_at_call 37; refine (callsIn_wide.2 HLC.out).mono ?_; rintro e w9 ⟨rfl, hb9⟩)
        exact ⟨X, rfl, HBW.out.trans (hb9.mono HBW.out.size), (fun h => by obtain ⟨g1, g2⟩ := HX.out h; exact ⟨g1, (hb9.block _ (lt_of_some g2)).trans g2⟩), H54.out⟩
      · cases l5
        · refine wpOpIn_of_list rfl ?_
          gi_wp2
          exact ⟨W'.heap.size, rfl, HBW.out.trans ((below1 W' _).mono HBW.out.size), (fun _ => ⟨HBW.out.size, alloc_new W' _⟩), fun _ => rfl⟩
        · exfalso
          have h4 : l4 = true := H54.out rfl
          subst h4
          simp [Region.binds] at hi2
      · have h3 : l3 = true := by simp [Region.binds] at hi2; simp_all
        subst h3
        have h4 : l4 = true := by simp [Region.binds] at hi2; simp_all
        subst h4
        obtain ⟨g1, g2⟩ := HX.out rfl
        have c0 := (blk_cell g2 0).trans (cell1_0 _)
        have f0 := blk_frozen g2 0
        refine wpOpIn_of_list rfl ?_
        gi_wp2
        exact ⟨X, rfl, HBW.out.setCell (p := ⟨X, 0, none⟩) g1 _, (fun _ => ⟨g1, Boxed.set _ g2⟩), fun _ => rfl⟩
    case fin =>
      intro listed a' W' hsz hall hI
      obtain ⟨X, rfl, hB, hX, -⟩ := hI
      obtain ⟨l0, l1, l2, l3, l4, l5, rfl⟩ := arr6 listed hsz
      simp at hall
      obtain ⟨rfl, rfl, rfl, rfl, rfl, rfl⟩ := hall
      obtain ⟨hX1, hX2⟩ := hX rfl
      have q0 : HasBlk W' w.heap.size #[.int .i64 (k : Int), .slice a n c] 25 := (hB.block _ Z1.out).trans B0.out
      have y0 := (blk_cell q0 0).trans (cell2_0 _ _)
      have y1 := (blk_cell q0 1).trans (cell2_1 _ _)
      have hXL : X < W'.heap.size := lt_of_some hX2
      have HX2 : Hid (HasBlk W' X #[.int .i64 (L0 : Int)] 3) := Lib.hid hX2
      have HQ0 := Lib.hid q0
      obtain ⟨W4, hW4, r1, hs4, hb4⟩ : ∃ W4, (W'.alloc (.cells #[.int .i64 (k : Int), .slice a n c] 25)).alloc (.cells #[.int .i64 (FU : Int)] 41) = W4 ∧ HasBlk W4 (W'.heap.size + 1) #[.int .i64 (FU : Int)] 41 ∧ W4.heap.size = W'.heap.size + 1 + 1 ∧ Below W'.heap.size W' W4 :=
        ⟨_, rfl, alloc2_1 W' _ _, by simp, below2 W' _ _⟩
      have hst := partsF_stops (6 - 1) (by omega) (W'.heap.size + 1) k (by omega) (FU : Int) (by rw [HFN.out]) W4 (by omega) ((blk_cell r1 0).trans (cell1_0 _))
      rw [← HN.out] at hst
      have HST := Lib.hid hst
      have HQ1 : Hid (HasBlk W4 X #[.int .i64 (L0 : Int)] 3) := Lib.hid ((hb4.block _ hXL).trans hX2)
      have HQ2 : Hid (HasBlk W4 w.heap.size #[.int .i64 (k : Int), .slice a n c] 25) := Lib.hid ((hb4.block _ (lt_of_some q0)).trans q0)
      have HQ3 := Lib.hid r1
      have HBW' := Lib.hid (HB1.out.trans (hB.mono (show w.heap.size ≤ w1.heap.size from Nat.le_of_lt Z1.out)))
      have HB4 := Lib.hid (HBW'.out.trans (hb4.mono HBW'.out.size))
      have HW4 := Lib.hid hW4
      have HS4 := Lib.hid hs4
      have hwX : w.heap.size < X := Nat.lt_of_lt_of_le Z1.out hX1
      clear hB hX hX2 q0 hW4 r1 hs4 hb4 hst
      gi_wp2_with (first
        | (refine ⟨trivial, ?_⟩; gi_at_call 38; refine (callsIn_wide.2 (full_any (k : Int) a n c _ hk1I hk6I)).mono ?_; rw [HFU.out]; rintro e w' ⟨rfl, rfl⟩)
        | (refine ⟨trivial, ?_⟩; gi_at_call 28; refine (callsIn_wide.2 (partsW_any _ _)).mono ?_; rintro e w' ⟨rfl, rfl⟩))
      rw [HW4.out]
      refine wpIn_rangeFunc_ownG rfl h16 (gf := 51) (lb := #[.pointer (some ⟨W'.heap.size + 1, 0, none⟩)]) rfl trivial (enters_of Tryd.func51 (by kernel_rfl) rfl)
        HST.out (fun h k e => k (h e)) ?keepc (Below.refl _ _) (fun _ => rfl)
        (fun pre W => (HasBlk W X #[.int .i64 ((minF zs L0 (valsF pre) : Nat) : Int)] 3 ∧ HasBlk W w.heap.size #[.int .i64 (k : Int), .slice a n c] 25 ∧ HasBlk W (W'.heap.size + 1) #[.int .i64 (FU : Int)] 41) ∧ Below w.heap.size w W)
        (fun _ _ _ => False)
        ?own
        (fun _ _ _ _ _ hs _ _ => hs)
        ⟨⟨HQ1.out, HQ2.out, HQ3.out⟩, HB4.out⟩
        (fun x => { tmps := #[.agg #[.int .i64 (k : Int), .slice a n c], .pointer (some ⟨w.heap.size, 0, none⟩), .int .i64 0, .bool false, .pointer (some ⟨X, 0, none⟩), .int .i64 (x.1 : Int), .agg #[.int .i64 (k : Int), .slice a n c], .bool true, .bool false, .agg #[.int .i64 (k : Int), .slice a n c], .agg #[.int .i64 (k : Int), .slice a n c], .int .i64 (FU : Int), .int .i64 (L0 : Int), .agg #[.int .i64 (k : Int), .slice a n c], .int .i64 (FU : Int), .func (.func 51) #[] #[.pointer (some ⟨W'.heap.size + 1, 0, none⟩)], .int .i64 (x.1 : Int), undef, undef, undef, undef, undef, undef], defers := [] }) ?assign ?body ?done ?stop
      case keepc =>
        intro W2 l' o o' hl' ho hoc _ hc
        have hne : W'.heap.size + 1 ≠ l' := by have := HS4.out; omega
        rw [← hc]
        exact World.cell?_of_block (World.putObj_heap_other hne)
      case own =>
        rintro s A B row ⟨⟨h1, h2, h3⟩, h5⟩ hg hr
        have hr' : ∀ (b : Nat) (cs : Array Value) (t : TypeId), HasBlk A b cs t → row ≠ some b := fun b cs t hb e => by
          obtain ⟨-, o, ho, hc⟩ := hr b e
          rw [show A.heap[b]? = _ from hb] at ho; cases ho; cases hc
        exact ⟨⟨h1.kept hg (hr' _ _ _ h1), h2.kept hg (hr' _ _ _ h2), h3.kept hg (hr' _ _ _ h3)⟩, h5.grown hg (by have := h5.size; omega) (fun r e => by have := (hr r e).1; have := HS4.out; omega)⟩
      case assign =>
        intro l x W K hK
        gi_wp2
        exact hK
      case body =>
        rintro l pre ⟨x, hxN⟩ W ⟨⟨h1, h2, h3⟩, hB⟩ hlt
        obtain ⟨xx, hxx⟩ : ∃ xx : PrtF N, xx = ⟨x, hxN⟩ := ⟨_, rfl⟩
        have hx64 : x < 64 := by have := HFN.out; have := HN.out; omega
        have hli := HLI.out x W.drew hx64 (show Ints W W.heap.size a zs from (HA0.out.below hB).mono hB.size)
        have HSN : Hid (minF zs L0 (valsF (pre ++ [xx])) = min (minF zs L0 (valsF pre)) (linN zs x)) := Lib.hid (by rw [valsF_snoc, hxx, minF_snoc])
        have hv16 := HL16.out x
        have hm16 := minF_small (zs := zs) (valsF pre) hL016
        obtain ⟨M, hM⟩ : ∃ M, M = minF zs L0 (valsF pre) := ⟨_, rfl⟩
        obtain ⟨V, hV⟩ : ∃ V, V = linN zs x := ⟨_, rfl⟩
        rw [← hM] at HSN hm16 h1
        rw [← hV] at HSN hv16 hli
        have HLI2 := Lib.hid hli
        have x0 := (blk_cell h2 0).trans (cell2_0 _ _)
        have x1 := (blk_cell h2 1).trans (cell2_1 _ _)
        have p0 := (blk_cell h1 0).trans (cell1_0 _)
        have m1 := blk_frozen h1 0
        have H1 := Lib.hid h1
        have H2 := Lib.hid h2
        have H3 := Lib.hid h3
        have HB := Lib.hid hB
        have hlt1 : X < W.drew.heap.size := lt_of_some h1
        dsimp only
        rw [← hxx]
        clear h1 h2 h3 hB hxx hli hM hV
        gi_wp2
        gi_region_with_o (refine ⟨trivial, ?_⟩; gi_at_call 37; refine (CallsIn.inRound l (callsIn_wide.2 HLI2.out)).mono ?_; rintro e w2 ⟨rfl, hb2⟩; have e1 := (hb2.cell (p := ⟨X, 0, none⟩) hlt1).trans p0; have ef1 := (hb2.frozen (p := ⟨X, 0, none⟩) hlt1).trans m1)
        all_goals
          have HB2 : Hid (Below W.heap.size W w2) := Lib.hid ⟨hb2.os, hb2.tape, hb2.output, hb2.size, hb2.block⟩
          have ef2 := (hb2.frozen (p := ⟨X, 0, none⟩) hlt1).trans m1
          clear hb2
          gi_wp2
          have h1' : HasBlk w2 X #[.int .i64 (M : Int)] 3 := (HB2.out.block _ (lt_of_some H1.out)).trans H1.out
          have h3' : HasBlk w2 (W'.heap.size + 1) #[.int .i64 (FU : Int)] 41 := (HB2.out.block _ (lt_of_some H3.out)).trans H3.out
          have h3s : HasBlk (w2.setCell ⟨X, 0, none⟩ (.int .i64 (min (M : Int) (V : Int)))) (W'.heap.size + 1) #[.int .i64 (FU : Int)] 41 := HasBlk.far h3' (show W'.heap.size + 1 ≠ X by omega) _
          have h2' : HasBlk w2 w.heap.size #[.int .i64 (k : Int), .slice a n c] 25 := (HB2.out.block _ (lt_of_some H2.out)).trans H2.out
          have hks : KeepsFrom W4.heap.size W w2 := ⟨HB2.out.size, fun k o _ hk _ => (HB2.out.block k (lt_of_some hk)).trans hk⟩
          refine ⟨hks.trans ((KeepsOthers.setCell _ _ _).from _), fun _ => (blk_cell h3s 0).trans (cell1_0 _), ⟨?_, HasBlk.far h2' (show w.heap.size ≠ X by omega) _, h3s⟩, (HB.out.trans (HB2.out.mono HB.out.size)).setCell (p := ⟨X, 0, none⟩) (by show w.heap.size ≤ X; omega) _⟩
          rw [HSN.out, show ((min M V : Nat) : Int) = min (M : Int) (V : Int) by omega]
          exact Boxed.set _ h1'
      case done =>
        rintro E ys W hE hys ⟨⟨h1, -, -⟩, hB⟩ hK
        rw [hys] at h1
        have c0 := (blk_cell h1 0).trans (cell1_0 _)
        have HB := Lib.hid hB
        have HK := Lib.hid hK
        have HEs : Hid (w.heap.size ≤ E) := Lib.hid (by have := HS4.out; omega)
        clear h1 hB hK hys
        gi_wp2
        refine ⟨by simp, .inl ⟨_, _, rfl, run_takeDeferred HK.out, ?_⟩⟩
        exact ⟨.tuple #[.int .i64 ((minF zs L0 (List.range N) : Nat) : Int), .bool true], by simp [results, Tryd.results16, go_sem], by rw [HN.out], HB.out.trans (belowK_b (w := w) (Nat.le_refl _) W E _ _ HEs.out HK.out rfl rfl)⟩
      case stop =>
        rintro D c pre W _ _ h _
        exact h.elim

end Go.Proofs.YtnkedijlddakbaaDoor
