/- It is proved what the method ask leaves in its map; conditions: those of each statement. -/
import Derived.RowKit
import Derived.Laws.CopyRow
import Derived.Lib.SlBuf
import Derived.Deep.QuietTactic
import Derived.RangeFuncNested
import Derived.RangeFuncBound
import Derived.RangeFuncCalls
import Derived.RangeFuncLeaves
import Derived.RangeFuncBox
import Derived.RangeFuncWrites
import Derived.StillTailTactics
import Derived.Maps.OwnIn
import Derived.Maps.Ext
import Derived.DeepKeys4
import Derived.MapKept
import Derived.Test.YtijpgbkjgjpmmaaDoorRows
import Derived.WalkKit
import Derived.WalkSpells
import Derived.ProofKit
import Derived.OpenShut
import Derived.ShutString
import Derived.ChangeOld
import Derived.Below
import Derived.Deep.RegionHeld3
import Derived.BigQuiet
import Derived.Lib.Hide
import Derived.Lib.SmallJoins
import Derived.Outline
import Derived.Laws.MakeOwn
import Derived.Laws.OwnMore
import Derived.IntWalk
import Derived.Lib.AppendZeros
import Derived.Maps.AppendAt
import Derived.Deep.AppendLies
import Derived.OwnWalk
import Derived.Lib.SlicesCompact
import Derived.Lib.OwnBridge
import Derived.OrdersIn
import Derived.TacticsIn
import Derived.Shelf.Sort.Plain
import Derived.Shelf.Slices.In.SortNone
import Derived.Shelf.Slices.CompactI
import Derived.Ground.Names2Prog
import Derived.Shelf.Abstract
import Derived.Shelf.RegionOpen
import Derived.OwnWalkIn
import Derived.TacticsInMore
import Derived.LoopNIn
import Derived.LoopIn
import Derived.StillTail
import Derived.StillTactics
import Derived.Shelf.Spec.TrailingZeros
import Derived.Test.YtijpgbkjgjpmmaaDoorMrab
import Derived.Test.YtijpgbkjgjpmmaaDoorMrad
import Derived.Test.YtijpgbkjgjpmmaaDoorMrai
import Derived.Test.YtijpgbkjgjpmmaaDoorMrae
import Derived.Test.YtijpgbkjgjpmmaaDoorMrag
import Derived.Test.YtijpgbkjgjpmmaaDoorMraf
import Derived.Test.YtijpgbkjgjpmmaaDoorMrah
import Derived.Test.YtijpgbkjgjpmmaaDoorMraa
import Derived.Test.YtijpgbkjgjpmmaaDoorMrac
namespace Go.Proofs.YtijpgbkjgjpmmaaDoor
open Go.RowKit Go.Shelf Go.Maps

attribute [local go_sem] Oper.semAt_some

theorem arr8 (x : Array Bool) (h : x.size = 8) : ∃ l0 l1 l2 l3 l4 l5 l6 l7 : Bool, x = #[l0, l1, l2, l3, l4, l5, l6, l7] := by
  obtain ⟨l⟩ := x
  match l, h with
  | [l0, l1, l2, l3, l4, l5, l6, l7], _ => exact ⟨_, _, _, _, _, _, _, _, rfl⟩

theorem zeroNm (w : World) : (zeroValue 66).run Tryd.prog w = .ok (.agg (iv zero13)) w := by kernel_rfl
theorem wpListIn_lookup_row {F : Fence} {nF : Nat} (w : World) {ops : Array Oper} {rest : List Oper} {o : Oper} {a : Act} {Q : Exit → Act → World → Prop}
    (hg : o.guard = none) (mm x : Operand) (hop : o.op = Op.lookup 48 mm x false) (b n : Nat) (D : DataW Unit)
    (hm : a.eval mm = .map (some b)) (hown : OwnT w b n D) (key : Value) (lk : Lit) (hx : a.eval x = key) (hkey : keyOf Tryd.prog 50 key = some lk) (L : List Int) (hat : D.atKey lk (intsD zero13) = intsD L)
    (hK : wpListIn F nF Tryd.prog ops Q rest (a.put o.dst (.agg (iv L))) w) : wpListIn F nF Tryd.prog ops Q (o :: rest) a w := by
  refine wpListIn_plain hg fun K' hK' => ?_
  obtain ⟨v, ps, hrun, hv⟩ := hown.lookup keyLaw Tryd.underlying48 (zeroNm w) (rowR_mk zero13) hkey
  rw [hat] at hv
  obtain rfl := rowR_inv hv
  unfold Oper.wpIn
  refine ⟨by simp [Oper.about, hop], ?_⟩
  rw [Oper.semAt_plain F _ _ (by rw [hop]; intro c hc'; cases hc')]
  simp [execOp, hop, hm, hx, hrun, Result.andThen]
  exact hK' _ _ hK

/-- Before the map is written. -/
structure PreA (W W' : World) (h Mb b n m : Nat) (pa : Option Addr) (p : List Nat) (K : Array Value) (D : DataW Unit) : Prop where
  k : HasBlk W' h #[.map (some b)] 48
  q : HasBlk W' Mb K 50
  i : Ints W' W'.heap.size pa (nI p)
  o : OwnT W' b n D
  t : But (fun k => k = b) W W'

/-- Behind it. -/
structure PostA (W W' : World) (b n : Nat) (D : DataW Unit) : Prop where
  o : OwnT W' b n D
  t : But (fun k => k = b) W W'

theorem PreA.below {W W' W2 : World} {h Mb b n m : Nat} {pa : Option Addr} {p : List Nat} {K : Array Value} {D : DataW Unit} (P : PreA W W' h Mb b n m pa p K D) (hb : Below W'.heap.size W' W2) : PreA W W2 h Mb b n m pa p K D :=
  ⟨(hb.block _ (lt_of_some P.k)).trans P.k, (hb.block _ (lt_of_some P.q)).trans P.q, (P.i.below hb).mono hb.size, P.o.but (But.of_below (X := fun _ => False) hb) (fun h => h), P.t.trans (But.of_below hb)⟩

theorem ints_putObj {A : World} {B l : Nat} {o : Obj} {a : Option Addr} {zs : List Int} (h : Ints A B a zs) (hl : ∃ o', A.heap[l]? = some o' ∧ o'.isCells = false) : Ints (A.putObj l o) B a zs := by
  rcases h with h | ⟨g, off, e, hg, hc⟩
  · exact .inl h
  · by_cases hz : zs = []
    · exact .inl hz
    · refine .inr ⟨g, off, e, hg, fun j hj => ?_⟩
      have hne : g ≠ l := by
        rintro rfl
        obtain ⟨o', ho, hn⟩ := hl
        have := hc 0 (List.length_pos_iff.2 hz)
        cases o' <;> simp [World.cell?, ho] at this
        cases hn
      exact (World.cell?_of_block (a := ⟨g, off + j, none⟩) (World.putObj_heap_other hne)).trans (hc j hj)

set_option maxRecDepth 100000 in
set_option maxHeartbeats 8000000 in
theorem ask_any (m : Nat) (hm0 : 1 ≤ m) (hm : m ≤ 6) (a : Option Addr) (c : Nat) (zs : List Int) (w : World) (ha : Ints w w.heap.size a zs) (hT : Tab w) (hf : famIn (m : Int) zs = true) (b n0 : Nat) (D0 : DataW Unit) (hb1 : 1 < b) (hown : OwnT w b n0 D0) :
    Calls Tryd.prog 39 #[.map (some b), .agg #[.int .i64 (m : Int), .slice a zs.length c]] w fun e w' => e = .returned (.tuple #[]) ∧
      (∃ n D, OwnT w' b n D ∧ TabD zs D (permsL m (List.range m))) ∧ But (fun k => k = b) w w' := by
  have hbw : b < w.heap.size := hown.lt
  obtain ⟨hm1, hm6, hl8, hz4⟩ := famIn_out hf
  have hown2 : OwnT ((w.alloc (.cells #[.map (some b)] 48)).alloc (.cells #[.int .i64 (m : Int), .slice a zs.length c] 25)) b n0 D0 := (hown.alloc _).alloc _
  obtain ⟨W3, hcl, hown3, hg3⟩ := clear_own hown2
  have hb3 : But (fun k => k = b) w W3 := ((But.alloc _ _).trans (But.alloc _ _)).trans (But.of_grownBy hg3 (fun r e _ => by injection e with e; exact e.symm))
  have q0 : HasBlk W3 w.heap.size #[.map (some b)] 48 := (hg3.block w.heap.size (by simp; omega) (fun e => by injection e; omega)).trans (alloc2_0 w _ _)
  have q1 : HasBlk W3 (w.heap.size + 1) #[.int .i64 (m : Int), .slice a zs.length c] 25 := (hg3.block (w.heap.size + 1) (by simp) (fun e => by injection e; omega)).trans (alloc2_1 w _ _)
  have hs3 : w.heap.size + 2 ≤ W3.heap.size := by have := hg3.size; simpa using this
  obtain ⟨n, hn⟩ : ∃ n, n = zs.length := ⟨_, rfl⟩
  have HN := Lib.hid hn
  have HI := Lib.hid ha
  have HT := Lib.hid hT
  have HF := Lib.hid hf
  have hx : n ≤ 8 := by omega
  have hz8 : zs.length ≤ 8 := by omega
  have HZ : Hid (∀ z ∈ zs, z.toNat < 2 ^ m) := Lib.hid (fun z hz => by
    have h1 := hz4 z hz
    have h2 : ((2 ^ m : Nat) : Int) = (2 : Int) ^ m := by simp
    have h3 : fullI (m : Int) = ((2 ^ m - 1 : Nat) : Int) := full_nat m
    have h4 : 1 ≤ 2 ^ m := Nat.one_le_two_pow
    omega)
  rw [← hn] at hcl q1 ⊢
  have c0 := (blk_cell q0 0).trans (cell1_0 _)
  have c1a := (blk_cell q1 0).trans (cell2_0 _ _)
  have c1b := (blk_cell q1 1).trans (cell2_1 _ _)
  have Q0 := Lib.hid q0
  have Q1 := Lib.hid q1
  have HB3 := Lib.hid hb3
  have HO3 := Lib.hid hown3
  have HS3 := Lib.hid hs3
  have HMB := Lib.hid hown.blk
  have hmx : Tryd.prog.follows .mixedOrders = true := by kernel_rfl
  clear ha hT hf hn hz4 hown2 hg3 q0 q1 hb3 hown3 hown
  refine (callsIn_wide (n := 6)).1 ?_
  refine callsIn_of_wp_marks Tryd.func39 rfl trivial ?_ rfl
  simp only [Tryd.ntmps39, List.size_toArray, List.length_cons, List.length_nil, Nat.reduceAdd, Nat.reduceSub, Array.replicate_succ, Array.replicate_zero, List.push_toArray, List.append_toArray, List.nil_append, List.cons_append]
  gi_wp2_with (refine ⟨trivial, ?_⟩; gi_at_call 60; refine (callsIn_wide.2 (allNames_any _ _)).mono ?_; rintro e w' ⟨rfl, rfl⟩)
  obtain ⟨Bm, hBm⟩ : ∃ Bm, Bm = W3.heap.size := ⟨_, rfl⟩
  have hc4 : (W3.alloc (.cells #[.int .i64 (m : Int)] 3)).cell? ⟨Bm, 0, none⟩ = some (.int .i64 (m : Int)) := by rw [hBm]; exact (blk_cell (alloc_new _ _) 0).trans (cell1_0 _)
  have hO4 : OwnT (W3.alloc (.cells #[.int .i64 (m : Int)] 3)) b 0 (.map []) := HO3.out.alloc _
  have hB4 := HB3.out.trans (But.alloc W3 (.cells #[.int .i64 (m : Int)] 3))
  have hQ0 : HasBlk (W3.alloc (.cells #[.int .i64 (m : Int)] 3)) w.heap.size #[.map (some b)] 48 := HasBlk.alloc Q0.out _
  have hQ1 : HasBlk (W3.alloc (.cells #[.int .i64 (m : Int)] 3)) (w.heap.size + 1) #[.int .i64 (m : Int), .slice a n c] 25 := HasBlk.alloc Q1.out _
  have hs4 : (W3.alloc (.cells #[.int .i64 (m : Int)] 3)).heap.size = Bm + 1 := by rw [hBm]; simp
  obtain ⟨W4, hW4⟩ : ∃ W4, W3.alloc (.cells #[.int .i64 (m : Int)] 3) = W4 := ⟨_, rfl⟩
  rw [← hBm]
  rw [hW4] at hc4 hO4 hB4 hQ0 hQ1 hs4 ⊢
  have hT4 : Tab W4 := tab_but HT.out hB4 (fun k e => by omega)
  have hwB : w.heap.size + 1 < Bm := by have := HS3.out; omega
  have Q0 := Lib.hid hQ0
  have Q1 := Lib.hid hQ1
  have HB4 := Lib.hid hB4
  have HO4 := Lib.hid hO4
  have HSO := Lib.hid hs4
  have HT4 := Lib.hid hT4
  clear c0 c1a c1b hcl hW4 hBm hO4 hB4 hQ0 hQ1
  refine wpIn_rangeFunc_cells (n := 6) (by omega) (gf := 72) (lb := #[.pointer (some ⟨Bm, 0, none⟩)]) rfl (enters_of Tryd.func72 (by kernel_rfl) rfl)
    (allNames1_in m b (6 - 1) hm0 hm hb1 Bm W4 (by omega) hc4 hT4) (Below.refl _ _) (by omega) (fun _ => rfl)
    (fun x A l o h hl => ⟨h.1, by obtain ⟨a', c', e, hi⟩ := h.2; exact ⟨a', c', e, by simpa using ints_putObj hi hl⟩⟩)
    (fun xs W => (∃ D, OwnT W b xs.length D ∧ TabD zs D (xs.map (·.2))) ∧ (∀ x ∈ xs, x.2.length = m ∧ ∀ v ∈ x.2, v < m) ∧ But (fun k => k = b) W4 W)
    ?own ⟨⟨_, HO4.out, tab_nil zs⟩, by simp, But.refl _ _⟩
    (fun x => { tmps := #[.map (some b), .agg #[.int .i64 (m : Int), .slice a n c], .pointer (some ⟨w.heap.size, 0, none⟩), .pointer (some ⟨w.heap.size + 1, 0, none⟩), x.1, undef, .map (some b), .pointer (some ⟨w.heap.size + 1, 0, none⟩), .int .i64 (m : Int), .func (.func 72) #[] #[.pointer (some ⟨Bm, 0, none⟩)], x.1, undef, undef, undef, undef, undef, undef, undef, undef, undef, undef], defers := [] }) ?assign ?body ?done
  case own =>
    rintro xs A C row ⟨⟨D, hO, hTd⟩, hall, hB⟩ hg hr
    have hs := HSO.out
    refine ⟨⟨D, hO.kept hg (fun e => by have := hr b e.symm; omega), hTd⟩, hall, ?_⟩
    exact ⟨hg.os.trans hB.os, hg.tape.trans hB.tape, hg.output.trans hB.output, Nat.le_trans hB.size hg.size, fun i hi hX => (hg.block i (Nat.lt_of_lt_of_le hi hB.size) (fun e => by have := hr i e.symm; omega)).trans (hB.same i hi hX)⟩
  case assign =>
    intro l x W K hK
    gi_wp2
    exact hK
  case body =>
    rintro l xs x W ⟨⟨D, hO, hTd⟩, hall, hB⟩ hok hlen
    obtain ⟨v, p⟩ := x
    obtain ⟨⟨hpl, hpv⟩, pa, pc, hv, hpi⟩ := hok
    simp only at hpl hpv hv hpi
    subst hv
    have hokp : Okp m (nI p) := okp_nI hm hpl hpv
    have hnm : NamesOk (nI p) := namesOk_nI hm0 hm hpl hpv
    have hpm : (nI p).length = m := by rw [nI_len, hpl]
    have hwk : WfK (keyL zs (nI p)) := wfK_key hm hz8 HZ.out hokp
    have hks := keyL_len zs (nI p) hz8
    have hWs : W4.heap.size ≤ W.heap.size := hB.size
    have hiW : Ints W W.heap.size a zs := (ints_but (ints_but HI.out (Nat.le_refl _) HB4.out HMB.out) (by have := HB4.out.size; omega) hB (by obtain ⟨es, clk, h⟩ := HO4.out.blk; exact ⟨es, clk, h⟩)).mono (by have := HSO.out; omega)
    have hTW : Tab W := tab_but HT4.out hB (fun k e => by omega)
    have HLB := listBy_any m a c zs pa pc (nI p) hokp W hiW hpi hTW HF.out
    rw [← HN.out, hpm] at HLB
    have x0 := (blk_cell (show HasBlk W (w.heap.size + 1) #[.int .i64 (m : Int), .slice a n c] 25 from hB.keep (by omega) Q1.out) 0).trans (cell2_0 _ _)
    have x1 := (blk_cell (show HasBlk W (w.heap.size + 1) #[.int .i64 (m : Int), .slice a n c] 25 from hB.keep (by omega) Q1.out) 1).trans (cell2_1 _ _)
    have hq0 : HasBlk W w.heap.size #[.map (some b)] 48 := hB.keep (by omega) Q0.out
    have hbW : b < W.heap.size := by omega
    have hwW : w.heap.size + 1 < W.heap.size := by have := HSO.out; omega
    have HO := Lib.hid hO
    have HTD := Lib.hid hTd
    have HALL := Lib.hid hall
    have HB := Lib.hid hB
    have HPI := Lib.hid hpi
    have HQ0 := Lib.hid hq0
    obtain ⟨y0, y1, y2, y3, y4, y5, y6, y7, hy⟩ : ∃ y0 y1 y2 y3 y4 y5 y6 y7 : Int, keyL zs (nI p) = [y0, y1, y2, y3, y4, y5, y6, y7] := by
      generalize keyL zs (nI p) = L at hks
      match L, hks with
      | [y0, y1, y2, y3, y4, y5, y6, y7], _ => exact ⟨_, _, _, _, _, _, _, _, rfl⟩
    have HIV : Hid (iv (keyL zs (nI p)) = #[.int .i64 y0, .int .i64 y1, .int .i64 y2, .int .i64 y3, .int .i64 y4, .int .i64 y5, .int .i64 y6, .int .i64 y7]) := Lib.hid (by rw [hy]; rfl)
    have HPL := Lib.hid hpl
    rw [hpl]
    clear hO hTd hall hB hpi hokp hiW hTW hq0 hpl hks hy
    gi_wp2_with (refine ⟨trivial, ?_⟩; gi_at_call 56; refine (CallsIn.inRound l (callsIn_wide.2 HLB)).mono ?_; rw [HIV.out]; rintro e w5 ⟨rfl, hb5⟩)
    have hb6 : Below W.heap.size W (w5.alloc (.cells #[.int .i64 y0, .int .i64 y1, .int .i64 y2, .int .i64 y3, .int .i64 y4, .int .i64 y5, .int .i64 y6, .int .i64 y7] 50)) := hb5.alloc hb5.size _
    have hq6 := alloc_new w5 (.cells #[.int .i64 y0, .int .i64 y1, .int .i64 y2, .int .i64 y3, .int .i64 y4, .int .i64 y5, .int .i64 y6, .int .i64 y7] 50)
    have hsz6 : (w5.alloc (.cells #[.int .i64 y0, .int .i64 y1, .int .i64 y2, .int .i64 y3, .int .i64 y4, .int .i64 y5, .int .i64 y6, .int .i64 y7] 50)).heap.size = w5.heap.size + 1 := by simp
    obtain ⟨W6, hW6⟩ : ∃ W6, w5.alloc (.cells #[.int .i64 y0, .int .i64 y1, .int .i64 y2, .int .i64 y3, .int .i64 y4, .int .i64 y5, .int .i64 y6, .int .i64 y7] 50) = W6 := ⟨_, rfl⟩
    rw [hW6] at hb6 hq6 hsz6 ⊢
    obtain ⟨Mb, hMb⟩ : ∃ Mb, Mb = w5.heap.size := ⟨_, rfl⟩
    rw [← hMb] at hq6 hsz6 ⊢
    have hMw : w.heap.size + 1 < Mb := by have := hb5.size; omega
    have hbM : b ≠ Mb := by have := hb5.size; omega
    have HPre : Hid (PreA W W6.drew w.heap.size Mb b xs.length m pa p #[.int .i64 y0, .int .i64 y1, .int .i64 y2, .int .i64 y3, .int .i64 y4, .int .i64 y5, .int .i64 y6, .int .i64 y7] D) := Lib.hid ⟨(hb6.block _ (by omega)).trans HQ0.out, hq6, (show Ints W6 W6.heap.size pa (nI p) from (HPI.out.below hb6).mono hb6.size), (show OwnT W6 b xs.length D from HO.out.but (But.of_below (X := fun _ => False) hb6) (fun h => h)), (But.of_below hb6).trans (But.drew W6)⟩
    have HMBE := Lib.hid hMb
    clear hMb hsz6 hW6
    refine wpIn_region_held (A := fun ls => { tmps := #[.map (some b), .agg #[.int .i64 (m : Int), .slice a n c], .pointer (some ⟨w.heap.size, 0, none⟩), .pointer (some ⟨w.heap.size + 1, 0, none⟩), .slice pa m pc, .pointer (some ⟨Mb, 0, none⟩), .map (some b), .pointer (some ⟨w.heap.size + 1, 0, none⟩), .int .i64 (m : Int), .func (.func 72) #[] #[.pointer (some ⟨Bm, 0, none⟩)], .slice pa m pc, .agg #[.int .i64 (m : Int), .slice a n c], .slice pa m pc, .agg #[.int .i64 y0, .int .i64 y1, .int .i64 y2, .int .i64 y3, .int .i64 y4, .int .i64 y5, .int .i64 y6, .int .i64 y7], bif ls.getD 0 false then .map (some b) else undef, bif ls.getD 1 false then .agg #[.int .i64 y0, .int .i64 y1, .int .i64 y2, .int .i64 y3, .int .i64 y4, .int .i64 y5, .int .i64 y6, .int .i64 y7] else undef, bif ls.getD 2 false then .map (some b) else undef, bif ls.getD 3 false then .agg #[.int .i64 y0, .int .i64 y1, .int .i64 y2, .int .i64 y3, .int .i64 y4, .int .i64 y5, .int .i64 y6, .int .i64 y7] else undef, bif ls.getD 4 false then .agg (iv (nmL zs (xs.map (·.2)) (keyL zs (nI p)))) else undef, bif ls.getD 5 false then .slice pa m pc else undef, bif ls.getD 6 false then .agg (iv (andL (nmL zs (xs.map (·.2)) (keyL zs (nI p))) (nI p))) else undef], defers := [] }) (S := fun ls W' => (ls.getD 7 false = true → ls.toList.all id = true) ∧ (if ls.getD 7 false then PostA W W' b (xs.length + 1) (D.put (keyLit (keyL zs (nI p))) (intsD (andL (nmL zs (xs.map (·.2)) (keyL zs (nI p))) (nI p)))) else PreA W W' w.heap.size Mb b xs.length m pa p #[.int .i64 y0, .int .i64 y1, .int .i64 y2, .int .i64 y3, .int .i64 y4, .int .i64 y5, .int .i64 y6, .int .i64 y7] D)) hmx (by kernel_rfl) rfl ⟨(fun h => (by cases h)), HPre.out⟩ ?step ?fin
    case step =>
      rintro listed W' i hsz hi hS
      obtain ⟨l0, l1, l2, l3, l4, l5, l6, l7, rfl⟩ := arr8 listed hsz
      obtain ⟨hi1, hi2⟩ := List.mem_filter.1 hi
      have hi8 : i < 8 := by simpa using hi1
      have hcase : i = 0 ∨ i = 1 ∨ i = 2 ∨ i = 3 ∨ i = 4 ∨ i = 5 ∨ i = 6 ∨ i = 7 := by omega
      rcases hcase with rfl | rfl | rfl | rfl | rfl | rfl | rfl | rfl
      · simp [Region.binds] at hi2
        subst hi2
        have h7 : l7 = false := by
          cases l7
          · rfl
          · have := hS.1 rfl
            simp at this
        subst h7
        have hP : PreA W W' w.heap.size Mb b xs.length m pa p #[.int .i64 y0, .int .i64 y1, .int .i64 y2, .int .i64 y3, .int .i64 y4, .int .i64 y5, .int .i64 y6, .int .i64 y7] D := hS.2
        refine wpOpIn_of_list rfl ?_
        have ck := (blk_cell hP.k 0).trans (cell1_0 _)
        gi_wp2
        first | exact ⟨rfl, hP⟩ | exact hP | exact ⟨rfl, (fun h => (by cases h)), hP⟩
      · simp [Region.binds] at hi2
        subst hi2
        have h7 : l7 = false := by
          cases l7
          · rfl
          · have := hS.1 rfl
            simp at this
        subst h7
        have hP : PreA W W' w.heap.size Mb b xs.length m pa p #[.int .i64 y0, .int .i64 y1, .int .i64 y2, .int .i64 y3, .int .i64 y4, .int .i64 y5, .int .i64 y6, .int .i64 y7] D := hS.2
        refine wpOpIn_of_list rfl ?_
        have e0 := blk_cell hP.q 0
        have e1 := blk_cell hP.q 1
        have e2 := blk_cell hP.q 2
        have e3 := blk_cell hP.q 3
        have e4 := blk_cell hP.q 4
        have e5 := blk_cell hP.q 5
        have e6 := blk_cell hP.q 6
        have e7 := blk_cell hP.q 7
        simp only [List.getElem?_toArray, List.getElem?_cons_zero, List.getElem?_cons_succ] at e0 e1 e2 e3 e4 e5 e6 e7
        gi_wp2
        first | exact ⟨rfl, hP⟩ | exact hP | exact ⟨rfl, (fun h => (by cases h)), hP⟩
      · simp [Region.binds] at hi2
        subst hi2
        have h7 : l7 = false := by
          cases l7
          · rfl
          · have := hS.1 rfl
            simp at this
        subst h7
        have hP : PreA W W' w.heap.size Mb b xs.length m pa p #[.int .i64 y0, .int .i64 y1, .int .i64 y2, .int .i64 y3, .int .i64 y4, .int .i64 y5, .int .i64 y6, .int .i64 y7] D := hS.2
        refine wpOpIn_of_list rfl ?_
        have ck := (blk_cell hP.k 0).trans (cell1_0 _)
        gi_wp2
        first | exact ⟨rfl, hP⟩ | exact hP | exact ⟨rfl, (fun h => (by cases h)), hP⟩
      · simp [Region.binds] at hi2
        subst hi2
        have h7 : l7 = false := by
          cases l7
          · rfl
          · have := hS.1 rfl
            simp at this
        subst h7
        have hP : PreA W W' w.heap.size Mb b xs.length m pa p #[.int .i64 y0, .int .i64 y1, .int .i64 y2, .int .i64 y3, .int .i64 y4, .int .i64 y5, .int .i64 y6, .int .i64 y7] D := hS.2
        refine wpOpIn_of_list rfl ?_
        have e0 := blk_cell hP.q 0
        have e1 := blk_cell hP.q 1
        have e2 := blk_cell hP.q 2
        have e3 := blk_cell hP.q 3
        have e4 := blk_cell hP.q 4
        have e5 := blk_cell hP.q 5
        have e6 := blk_cell hP.q 6
        have e7 := blk_cell hP.q 7
        simp only [List.getElem?_toArray, List.getElem?_cons_zero, List.getElem?_cons_succ] at e0 e1 e2 e3 e4 e5 e6 e7
        gi_wp2
        first | exact ⟨rfl, hP⟩ | exact hP | exact ⟨rfl, (fun h => (by cases h)), hP⟩
      · simp [Region.binds] at hi2
        obtain ⟨rfl, rfl, rfl⟩ := hi2
        have h7 : l7 = false := by
          cases l7
          · rfl
          · have := hS.1 rfl
            simp at this
        subst h7
        have hP : PreA W W' w.heap.size Mb b xs.length m pa p #[.int .i64 y0, .int .i64 y1, .int .i64 y2, .int .i64 y3, .int .i64 y4, .int .i64 y5, .int .i64 y6, .int .i64 y7] D := hS.2
        refine wpOpIn_of_list rfl ?_
        refine wpListIn_lookup_row W' rfl _ _ rfl b xs.length D rfl hP.o _ (keyLit (keyL zs (nI p))) rfl (by rw [← HIV.out]; exact keyLit_key hwk) _ (HTD.out.at_ _ hwk) ?_
        gi_wp2
        first | exact ⟨rfl, hP⟩ | exact hP | exact ⟨rfl, (fun h => (by cases h)), hP⟩
      · simp [Region.binds] at hi2
        subst hi2
        have h7 : l7 = false := by
          cases l7
          · rfl
          · have := hS.1 rfl
            simp at this
        subst h7
        have hP : PreA W W' w.heap.size Mb b xs.length m pa p #[.int .i64 y0, .int .i64 y1, .int .i64 y2, .int .i64 y3, .int .i64 y4, .int .i64 y5, .int .i64 y6, .int .i64 y7] D := hS.2
        refine wpOpIn_of_list rfl ?_
        gi_wp2
        first | exact ⟨rfl, hP⟩ | exact hP | exact ⟨rfl, (fun h => (by cases h)), hP⟩
      · simp [Region.binds] at hi2
        obtain ⟨rfl, rfl, rfl⟩ := hi2
        have h7 : l7 = false := by
          cases l7
          · rfl
          · have := hS.1 rfl
            simp at this
        subst h7
        have hP : PreA W W' w.heap.size Mb b xs.length m pa p #[.int .i64 y0, .int .i64 y1, .int .i64 y2, .int .i64 y3, .int .i64 y4, .int .i64 y5, .int .i64 y6, .int .i64 y7] D := hS.2
        refine wpOpIn_of_list rfl ?_
        have hno : NmOk (nmL zs (xs.map (·.2)) (keyL zs (nI p))) (xs.map (·.2)).length := nmOk_all _ _ _ (fun q hq => by obtain ⟨x, hx, rfl⟩ := List.mem_map.1 hq; exact namesOk_nI hm0 hm (HALL.out x hx).1 (HALL.out x hx).2)
        have hAND := and_any (nmL zs (xs.map (·.2)) (keyL zs (nI p))) hno.len hno.lo (by have h1 := hno.hi; have h2 : xs.length < 6 ^ m := hlen; have h3 : 6 ^ m ≤ 6 ^ 6 := Nat.pow_le_pow_right (by decide) hm; rw [List.length_map] at h1; omega) hno.cal pa pc (nI p) hnm.1 hnm.2.1 hnm.2.2 W' hP.i
        rw [hpm] at hAND
        clear hno
        gi_wp2_with (refine ⟨trivial, ?_⟩; gi_at_call 61; refine (CallsIn.inRound l (callsIn_wide.2 hAND)).mono ?_; rintro e w7 ⟨rfl, hb7⟩)
        first | exact ⟨rfl, hP.below hb7⟩ | exact hP.below hb7 | exact ⟨rfl, (fun h => (by cases h)), hP.below hb7⟩
      · simp [Region.binds] at hi2
        obtain ⟨rfl, rfl, rfl, rfl, -, -, rfl, rfl, rfl, rfl, -⟩ := hi2
        have hP : PreA W W' w.heap.size Mb b xs.length m pa p #[.int .i64 y0, .int .i64 y1, .int .i64 y2, .int .i64 y3, .int .i64 y4, .int .i64 y5, .int .i64 y6, .int .i64 y7] D := hS.2
        refine wpOpIn_of_list rfl ?_
        refine wpListIn_mapUpdate_own W' rfl _ _ _ 48 rfl 50 66 keyLaw Tryd.underlying48 rowR b xs.length D rfl hP.o (by have h2 : xs.length < 6 ^ m := hlen; have h3 : 6 ^ m ≤ 6 ^ 6 := Nat.pow_le_pow_right (by decide) hm; simp only [maxLen]; omega) _ _ (keyLit (keyL zs (nI p))) rfl rfl (by rw [← HIV.out]; exact keyLit_key hwk) _ [] (rowR_mk _) ?_
        intro w8 hown8 hg8
        gi_wp2
        first | exact ⟨hown8, hP.t.trans (But.of_grownBy hg8 (fun r e _ => by injection e with e; exact e.symm))⟩ | exact ⟨rfl, hown8, hP.t.trans (But.of_grownBy hg8 (fun r e _ => by injection e with e; exact e.symm))⟩ | exact ⟨rfl, (fun h => rfl), hown8, hP.t.trans (But.of_grownBy hg8 (fun r e _ => by injection e with e; exact e.symm))⟩
    case fin =>
      rintro listed W' hsz hal hS
      obtain ⟨l0, l1, l2, l3, l4, l5, l6, l7, rfl⟩ := arr8 listed hsz
      simp at hal
      obtain ⟨rfl, rfl, rfl, rfl, rfl, rfl, rfl, rfl⟩ := hal
      have hP : PostA W W' b (xs.length + 1) (D.put (keyLit (keyL zs (nI p))) (intsD (andL (nmL zs (xs.map (·.2)) (keyL zs (nI p))) (nI p)))) := hS.2
      gi_wp2
      refine ⟨hP.t, ⟨_, by rw [List.length_append]; exact hP.o, ?_⟩, ?_, HB.out.trans hP.t⟩
      · rw [List.map_append]
        exact tab_put HTD.out HO.out.isMap (fun q hq => by obtain ⟨x, hx, rfl⟩ := List.mem_map.1 hq; exact wfK_key hm hz8 HZ.out (okp_nI hm (HALL.out x hx).1 (HALL.out x hx).2)) p hwk
      · intro x1 x2 hx
        rcases List.mem_append.1 hx with h | h
        · exact HALL.out (x1, x2) h
        · have h2 := congrArg Prod.snd (List.mem_singleton.1 h)
          simp only at h2
          rw [h2]; exact ⟨HPL.out, hpv⟩
  case done =>
    rintro D ys W hD hys ⟨⟨D1, hO, hTd⟩, hall, hB⟩ hK
    have HK := Lib.hid hK
    have HO := Lib.hid hO
    have HB := Lib.hid hB
    rw [hys] at hTd
    have HTD := Lib.hid hTd
    have HDne : Hid (D ≠ b) := Lib.hid (by have := HSO.out; omega)
    have hDlt : W4.heap.size ≤ D := hD
    clear hK hO hB hTd hall
    gi_wp2
    refine ⟨by simp, .inl ⟨_, _, rfl, run_takeDeferred HK.out, ?_⟩⟩
    have hD0 : w.heap.size ≤ D := by have := HB4.out.size; omega
    have hbu : But (fun k => k = b) w W := HB4.out.trans HB.out
    refine ⟨_, results_none rfl _ _ _, rfl, ⟨_, D1, HO.out.kept (grownBy_putObj' W D _) (fun e => by injection e with e; exact HDne.out e.symm), HTD.out⟩, ?_⟩
    exact ⟨hbu.os, hbu.tape, hbu.output, by have := hbu.size; simpa using this, fun i hi hX => (World.putObj_heap_other (by omega)).trans (hbu.same i hi hX)⟩

end Go.Proofs.YtijpgbkjgjpmmaaDoor

/- It is proved how rows of ints of the call's own are read and kept; conditions: those of each statement. -/
namespace Go.Proofs.YtijpgbkjgjpmmaaDoor
open Go.RowKit Go.Shelf

theorem ownsRow_below {w w' : World} {B n : Nat} {v : Value} {xs : List Value} (h : w.ownsRow B 3 1 v n xs) (hb : Below w.heap.size w w') : w'.ownsRow B 3 1 v n xs :=
  World.ownsRow.kept h (only_of_below hb none) (by cases v.ownBlock <;> simp)

theorem OwnN.cap_le {w : World} {B : Nat} {a : Option Addr} {n cap : Nat} {zs : List Int} (h : OwnN w B a n cap zs) : n ≤ cap := by
  rcases h.2 with ⟨e, hn⟩ | ⟨g, c, cur, e, hb, hg, hc, _⟩
  · omega
  · injection e with e1 e2 e3
    omega

theorem OwnN.len {w : World} {B : Nat} {a : Option Addr} {n cap : Nat} {zs : List Int} (h : OwnN w B a n cap zs) : zs.length = n := by
  have := h.1; simpa using this

theorem OwnN.ints {w : World} {B : Nat} {a : Option Addr} {n cap : Nat} {zs : List Int} (h : OwnN w B a n cap zs) : Ints w w.heap.size a zs := by
  have hl := h.len
  subst hl
  exact own_ints (n := zs.length) (cap := cap) (B := B) h

theorem OwnN.base {w : World} {B B' : Nat} {a : Option Addr} {n cap : Nat} {zs : List Int} (h : OwnN w B a n cap zs) (hB : B' ≤ B) : OwnN w B' a n cap zs := ownsRow_base h hB
theorem OwnN.below {w w' : World} {B : Nat} {a : Option Addr} {n cap : Nat} {zs : List Int} (h : OwnN w B a n cap zs) (hb : Below w.heap.size w w') : OwnN w' B a n cap zs := ownsRow_below h hb
theorem OwnN.ne {w : World} {B : Nat} {a : Option Addr} {n cap : Nat} {zs : List Int} (h : OwnN w B a n cap zs) {b : Nat} (hb : b < B ∨ w.heap.size ≤ b) : (Value.slice a n cap).ownBlock ≠ some b := by
  intro e
  have := World.ownsRow.lt h b e
  omega

theorem OwnN.cell {w : World} {B g n cap : Nat} {ys : List Int} (h : OwnN w B (some ⟨g, 0, none⟩) n cap ys) {j : Nat} (hj : j < n) : w.cell? ⟨g, j, none⟩ = some (.int .i64 (ys[j]?.getD 0)) := by
  have hl := h.len
  have := World.ownsRow.cellAt h j (by omega)
  rw [this]; simp [show j < ys.length by omega]

theorem OwnN.cellz {w : World} {B g n cap : Nat} {ys : List Int} (h : OwnN w B (some ⟨g, 0, none⟩) n cap ys) {j : Nat} (hj : j < n) : w.cell? ⟨g, j, none⟩ = some (.int .i64 (ys[j]?.getD 0)) := h.cell hj
end Go.Proofs.YtijpgbkjgjpmmaaDoor

/- It is proved what ownNames and keeping return; conditions: those of each statement. -/
namespace Go.Proofs.YtijpgbkjgjpmmaaDoor
open Go.RowKit Go.Shelf Go.Maps

attribute [local go_sem] Oper.semAt_some

set_option maxRecDepth 100000 in
set_option maxHeartbeats 2000000 in
theorem appendSeq_any (s Bs : Nat) (hs : s < 64) (w : World) (hBs : Bs < w.heap.size) (hc : w.cell? ⟨Bs, 0, none⟩ = some (.int .i64 (s : Int))) (hT : Tab w) :
    Calls Tryd.prog 79 #[.slice none 0 0, .func (.func 51) #[] #[.pointer (some ⟨Bs, 0, none⟩)]] w fun e w' => ∃ v, e = .returned v ∧
      w'.ownsRow w.heap.size 3 1 v (mem s).length ((nI (mem s)).map (Value.int .i64)) ∧ Below w.heap.size w w' := by
  obtain ⟨i0, hi, hz0, hz1, hz2⟩ := info_parts Tryd.info3
  have h16 : 1 ≤ 6 := by omega
  have hT1 := hT.lt
  have bO := Boxed.new w 23 (.slice none 0 0)
  have hB0 : Below w.heap.size w (w.alloc (.cells #[.slice none 0 0] 23)) := below1 w _
  have hst := membersS_stops (6 - 1) (by omega) Bs w.heap.size s hs (w.alloc (.cells #[.slice none 0 0] 23)) (by simp; omega) (by simp) (by omega) ((hB0.cell (p := ⟨Bs, 0, none⟩) hBs).trans hc) (hT.below hB0 hT1)
  refine (callsIn_wide (n := 6)).1 ?_
  refine callsIn_of_wp_marks Tryd.func79 rfl trivial ?_ rfl
  simp only [Tryd.ntmps79, List.size_toArray, List.length_cons, List.length_nil, Nat.reduceAdd, Nat.reduceSub, Array.replicate_succ, Array.replicate_zero, List.push_toArray, List.append_toArray, List.nil_append, List.cons_append]
  clear hc
  gi_wp2
  refine wpIn_rangeFunc_ownG rfl h16 (gf := 51) (lb := #[.pointer (some ⟨Bs, 0, none⟩)]) rfl trivial (enters_of Tryd.func51 (by kernel_rfl) rfl)
    hst belowK_t (belowK_b (by simp)) (Below.refl _ _) (fun _ => rfl)
    (fun pre W => (∃ v, Boxed W w.heap.size 23 v ∧ W.ownsRow w.heap.size 3 1 v pre.length ((nI (valsS pre)).map (Value.int .i64)) ∧ True) ∧ Below w.heap.size w W)
    (fun _ _ _ => False)
    (OwnFrom.and (Own.from (holdsRow_own w.heap.size w.heap.size 23 3 1 (fun pre : List (MemS s) => pre.length) (fun pre => (nI (valsS pre)).map (Value.int .i64)) (fun pre v => True)) _) (ownFrom_below (Nat.le_refl _) (by simp)))
    (fun _ _ _ _ _ hs _ _ => hs)
    ⟨⟨_, bO, World.ownsRow_nil _ _ _ _, trivial⟩, hB0⟩
    (fun x => { tmps := #[.slice none 0 0, .func (.func 51) #[] #[.pointer (some ⟨Bs, 0, none⟩)], .pointer (some ⟨w.heap.size, 0, none⟩), undef, .slice none 0 0, .int .i64 (x.1 : Int), .func (.func 51) #[] #[.pointer (some ⟨Bs, 0, none⟩)], .int .i64 (x.1 : Int), undef, undef, undef, undef, undef], defers := [] }) ?assign ?body ?done ?stop
  case assign =>
    intro l x W K hK
    gi_wp2
    exact hK
  case body =>
    rintro l pre x W ⟨⟨v, hv, hrow, -⟩, hB⟩ hlt
    have hc := hv.cell
    gi_wp2_with (gi_at_builtin; refine wpListIn_append_own _ rfl _ _ 23 rfl w.heap.size 3 i0 (.int .i64 0) 1 8 Tryd.underlying23 hi hz0 hz1 hz2 rfl (by decide) _ _ _ rfl (hrow.alloc _) ⟨W.heap.size, 0, none⟩ 1 1 [.int .i64 (x.1 : Int)] rfl rfl (cell_one_new _ _ _) (by simp [Value.oneCell']) (by simp only [maxLen]; omega) (by omega) (by have := hB.size; simp; omega) ?_; intro v' w1 hown' hgrow _; obtain ⟨g', cap', rfl⟩ := ownsRow_succ hown'; obtain ⟨hv1, hv2, hr2, hk2, hb2⟩ := hv.appended (by decide) hrow hB.size (Nat.le_refl _) hown' hgrow; have hc1 := hv1.cell; have hf1 := hv1.frozen)
    exact ⟨hk2.from _, hb2, ⟨_, hv2, by rw [valsS_snoc, nI_snoc, List.map_append, List.length_append]; exact hr2, trivial⟩, hB.trans hb2⟩
  case done =>
    rintro D ys W hD hys ⟨⟨v, hv, hrow, -⟩, hB⟩ hK
    rw [hys, show ys.length = (mem s).length from by rw [← hys]; simp [valsS]] at hrow
    have hc := hv.cell
    gi_wp2
    refine ⟨by simp, .inl ⟨_, _, rfl, run_takeDeferred hK, ?_⟩⟩
    exact ⟨_, results_tmp rfl _ _ _, v, rfl, ownsRow_putObj hrow _ hK rfl, hB.trans (belowK_b (w := w) (Nat.le_refl _) W D _ _ (by simp at hD; omega) hK rfl rfl)⟩
  case stop =>
    rintro D c pre W _ _ h _
    exact h.elim

theorem slice_form {w' : World} {B k : Nat} {v : Value} {ys : List Value} (h : w'.ownsRow B 3 1 v k ys) : ∃ a c, v = .slice a k c := by
  rcases h.2 with ⟨rfl, rfl⟩ | ⟨g, cap, cur, rfl, _⟩
  · exact ⟨none, 0, rfl⟩
  · exact ⟨_, _, rfl⟩

set_option maxRecDepth 100000 in
set_option maxHeartbeats 2000000 in
theorem ownNames_any (m : Nat) (hm0 : 1 ≤ m) (hm : m ≤ 6) (a : Option Addr) (n c : Nat) (w : World) (hT : Tab w) :
    Calls Tryd.prog 57 #[.agg #[.int .i64 (m : Int), .slice a n c]] w fun e w' => ∃ pa pc, e = .returned (.slice pa m pc) ∧ OwnN w' w.heap.size pa m pc (nI (List.range m)) ∧ Below w.heap.size w w' := by
  have hm1I : 1 ≤ (m : Int) := by omega
  have hm6I : (m : Int) ≤ 6 := by omega
  have HF := Lib.hid (full_nat m)
  have hT1 := hT.lt
  have h63 : 2 ^ m - 1 < 64 := by have := Nat.pow_le_pow_right (n := 2) (by decide) hm; omega
  have hC : ∀ (W : World), Tab W → ∀ Bs, Bs < W.heap.size → W.cell? ⟨Bs, 0, none⟩ = some (.int .i64 ((2 ^ m - 1 : Nat) : Int)) → Calls Tryd.prog 71 #[.func (.func 51) #[] #[.pointer (some ⟨Bs, 0, none⟩)]] W fun e w' => ∃ pa pc, e = .returned (.slice pa m pc) ∧ OwnN w' W.heap.size pa m pc (nI (List.range m)) ∧ Below W.heap.size W w' := by
    intro W hTW Bs hBs hc
    have hA := appendSeq_any (2 ^ m - 1) Bs h63 W hBs hc hTW
    rw [mem_fullR m hm, List.length_range] at hA
    clear hc hTW
    go_enter Tryd.func71, Tryd.ntmps71
    go_wp2_with (go_at_call 79; refine hA.mono ?_; rintro e w' ⟨v, rfl, ho, hb⟩)
    go_ret
    obtain ⟨pa, pc, rfl⟩ := slice_form ho
    exact ⟨pa, pc, rfl, ho, hb⟩
  have hb3 := below3 w (.cells #[.int .i64 (m : Int), .slice a n c] 25) (.cells #[.int .i64 (m : Int), .slice a n c] 25) (.cells #[.int .i64 ((2 ^ m - 1 : Nat) : Int)] 57)
  have q2 := alloc3_2 w (.cells #[.int .i64 (m : Int), .slice a n c] 25) (.cells #[.int .i64 (m : Int), .slice a n c] 25) (.cells #[.int .i64 ((2 ^ m - 1 : Nat) : Int)] 57)
  have hCW := hC _ (hT.below hb3 hT1) (w.heap.size + 1 + 1) (by simp) ((blk_cell q2 0).trans (cell1_0 _))
  clear hC q2 hT
  go_enter Tryd.func57, Tryd.ntmps57
  go_wp2_with (first
    | (go_at_call 55; refine (full_any _ _ _ _ _ hm1I hm6I).mono ?_; rintro e w' ⟨rfl, rfl⟩; rw [HF.out])
    | (go_at_call 30; refine (members_any _ _).mono ?_; rintro e w' ⟨rfl, rfl⟩)
    | (go_at_call 71; refine hCW.mono ?_; rintro e w' ⟨pa, pc, rfl, ho, hb⟩))
  go_ret
  exact ⟨pa, pc, rfl, ho.base (by simp; omega), hb3.trans (hb.mono (by simp; omega))⟩

end Go.Proofs.YtijpgbkjgjpmmaaDoor
