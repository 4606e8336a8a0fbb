/- It is proved what the method ask leaves in its map; conditions: those of each statement. -/
import Derived.RowKit
import Derived.Laws.CopyRow
import Derived.Lib.SlBuf
import Derived.Deep.QuietTactic
import Derived.RangeFuncNested
import Derived.RangeFuncBound
import Derived.RangeFuncCalls
import Derived.RangeFuncLeaves
import Derived.RangeFuncBox
import Derived.RangeFuncWrites
import Derived.StillTailTactics
import Derived.Maps.OwnIn
import Derived.Maps.Ext
import Derived.DeepKeys4
import Derived.MapKept
import Derived.Test.YtgpgocijacgkhaaDoorRows
import Derived.WalkKit
import Derived.WalkSpells
import Derived.ProofKit
import Derived.OpenShut
import Derived.ShutString
import Derived.ChangeOld
import Derived.Below
import Derived.Deep.RegionHeld3
import Derived.BigQuiet
import Derived.Lib.Hide
import Derived.Lib.SmallJoins
import Derived.Outline
import Derived.Laws.MakeOwn
import Derived.Laws.OwnMore
import Derived.IntWalk
import Derived.Lib.AppendZeros
import Derived.Maps.AppendAt
import Derived.Deep.AppendLies
import Derived.OwnWalk
import Derived.Lib.SlicesCompact
import Derived.Lib.OwnBridge
import Derived.OrdersIn
import Derived.TacticsIn
import Derived.Shelf.Sort.Plain
import Derived.Shelf.Slices.In.SortNone
import Derived.Shelf.Slices.CompactI
import Derived.Ground.Names2Prog
import Derived.Shelf.Abstract
import Derived.Shelf.RegionOpen
import Derived.OwnWalkIn
import Derived.TacticsInMore
import Derived.LoopNIn
import Derived.LoopIn
import Derived.StillTail
import Derived.StillTactics
import Derived.Shelf.Spec.TrailingZeros
import Derived.Test.YtgpgocijacgkhaaDoorRabdxFnAlik
import Derived.Test.YtgpgocijacgkhaaDoorAe
import Derived.Test.YtgpgocijacgkhaaDoorRabexFnAlik
import Derived.Test.YtgpgocijacgkhaaDoorRabjxFnAlik
import Derived.Test.YtgpgocijacgkhaaDoorRaao
import Derived.Test.YtgpgocijacgkhaaDoorRabfxFnAlik
import Derived.Test.YtgpgocijacgkhaaDoorRabgxFnAlik
import Derived.Test.YtgpgocijacgkhaaDoorRaaa
import Derived.Test.YtgpgocijacgkhaaDoorRaab
import Derived.Test.YtgpgocijacgkhaaDoorRaah
import Derived.Test.YtgpgocijacgkhaaDoorRaar
import Derived.Test.YtgpgocijacgkhaaDoorRaac
import Derived.Test.YtgpgocijacgkhaaDoorRaae
import Derived.Deep.RegionLaw
import Derived.Test.YtgpgocijacgkhaaDoorRabixFnAlik
namespace Go.Proofs.YtgpgocijacgkhaaDoor
open Go.RowKit Go.Shelf Go.Maps

attribute [local go_sem] Oper.semAt_some

theorem arr8 (x : Array Bool) (h : x.size = 8) : ∃ l0 l1 l2 l3 l4 l5 l6 l7 : Bool, x = #[l0, l1, l2, l3, l4, l5, l6, l7] := by
  obtain ⟨l⟩ := x
  match l, h with
  | [l0, l1, l2, l3, l4, l5, l6, l7], _ => exact ⟨_, _, _, _, _, _, _, _, rfl⟩

theorem zeroNm (w : World) : (zeroValue 102).run Tryd.prog w = .ok (.agg (iv zero13)) w := by kernel_rfl
theorem wpListIn_lookup_row {F : Fence} {nF : Nat} (w : World) {ops : Array Oper} {rest : List Oper} {o : Oper} {a : Act} {Q : Exit → Act → World → Prop}
    (hg : o.guard = none) (mm x : Operand) (hop : o.op = Op.lookup 75 mm x false) (b n : Nat) (D : DataW Unit)
    (hm : a.eval mm = .map (some b)) (hown : OwnT w b n D) (key : Value) (lk : Lit) (hx : a.eval x = key) (hkey : keyOf Tryd.prog 77 key = some lk) (L : List Int) (hat : D.atKey lk (intsD zero13) = intsD L)
    (hK : wpListIn F nF Tryd.prog ops Q rest (a.put o.dst (.agg (iv L))) w) : wpListIn F nF Tryd.prog ops Q (o :: rest) a w := by
  refine wpListIn_plain hg fun K' hK' => ?_
  obtain ⟨v, ps, hrun, hv⟩ := hown.lookup keyLaw Tryd.underlying75 (zeroNm w) (rowR_mk zero13) hkey
  rw [hat] at hv
  obtain rfl := rowR_inv hv
  unfold Oper.wpIn
  refine ⟨by simp [Oper.about, hop], ?_⟩
  rw [Oper.semAt_plain F _ _ (by rw [hop]; intro c hc'; cases hc')]
  simp [execOp, hop, hm, hx, hrun, Result.andThen]
  exact hK' _ _ hK

/-- Before the map is written. -/
structure PreA (W W' : World) (h Mb b n m : Nat) (pa : Option Addr) (p : List Nat) (K : Array Value) (D : DataW Unit) : Prop where
  k : HasBlk W' h #[.map (some b)] 75
  q : HasBlk W' Mb K 77
  i : Ints W' W'.heap.size pa (nI p)
  o : OwnT W' b n D
  t : But (fun k => k = b) W W'

/-- Behind it. -/
structure PostA (W W' : World) (b n : Nat) (D : DataW Unit) : Prop where
  o : OwnT W' b n D
  t : But (fun k => k = b) W W'

theorem PreA.below {W W' W2 : World} {h Mb b n m : Nat} {pa : Option Addr} {p : List Nat} {K : Array Value} {D : DataW Unit} (P : PreA W W' h Mb b n m pa p K D) (hb : Below W'.heap.size W' W2) : PreA W W2 h Mb b n m pa p K D :=
  ⟨(hb.block _ (lt_of_some P.k)).trans P.k, (hb.block _ (lt_of_some P.q)).trans P.q, (P.i.below hb).mono hb.size, P.o.but (But.of_below (X := fun _ => False) hb) (fun h => h), P.t.trans (But.of_below hb)⟩

theorem ints_putObj {A : World} {B l : Nat} {o : Obj} {a : Option Addr} {zs : List Int} (h : Ints A B a zs) (hl : ∃ o', A.heap[l]? = some o' ∧ o'.isCells = false) : Ints (A.putObj l o) B a zs := by
  rcases h with h | ⟨g, off, e, hg, hc⟩
  · exact .inl h
  · by_cases hz : zs = []
    · exact .inl hz
    · refine .inr ⟨g, off, e, hg, fun j hj => ?_⟩
      have hne : g ≠ l := by
        rintro rfl
        obtain ⟨o', ho, hn⟩ := hl
        have := hc 0 (List.length_pos_iff.2 hz)
        cases o' <;> simp [World.cell?, ho] at this
        cases hn
      exact (World.cell?_of_block (a := ⟨g, off + j, none⟩) (World.putObj_heap_other hne)).trans (hc j hj)

set_option maxRecDepth 100000 in
set_option maxHeartbeats 8000000 in
theorem ask_any (m : Nat) (hm0 : 1 ≤ m) (hm : m ≤ 6) (a : Option Addr) (c : Nat) (zs : List Int) (w : World) (ha : Ints w w.heap.size a zs) (hT : Tab w) (hf : famIn (m : Int) zs = true) (b n0 : Nat) (D0 : DataW Unit) (hb1 : 1 < b) (hown : OwnT w b n0 D0) :
    Calls Tryd.prog 83 #[.map (some b), .agg #[.int .i64 (m : Int), .slice a zs.length c]] w fun e w' => e = .returned (.tuple #[]) ∧
      (∃ n D, OwnT w' b n D ∧ TabD zs D (permsL m (List.range m))) ∧ But (fun k => k = b) w w' := by
  have hbw : b < w.heap.size := hown.lt
  obtain ⟨hm1, hm6, hl8, hz4⟩ := famIn_out hf
  have hown2 : OwnT ((w.alloc (.cells #[.map (some b)] 75)).alloc (.cells #[.int .i64 (m : Int), .slice a zs.length c] 25)) b n0 D0 := (hown.alloc _).alloc _
  obtain ⟨W3, hcl, hown3, hg3⟩ := clear_own hown2
  have hb3 : But (fun k => k = b) w W3 := ((But.alloc _ _).trans (But.alloc _ _)).trans (But.of_grownBy hg3 (fun r e _ => by injection e with e; exact e.symm))
  have q0 : HasBlk W3 w.heap.size #[.map (some b)] 75 := (hg3.block w.heap.size (by simp; omega) (fun e => by injection e; omega)).trans (alloc2_0 w _ _)
  have q1 : HasBlk W3 (w.heap.size + 1) #[.int .i64 (m : Int), .slice a zs.length c] 25 := (hg3.block (w.heap.size + 1) (by simp) (fun e => by injection e; omega)).trans (alloc2_1 w _ _)
  have hs3 : w.heap.size + 2 ≤ W3.heap.size := by have := hg3.size; simpa using this
  obtain ⟨n, hn⟩ : ∃ n, n = zs.length := ⟨_, rfl⟩
  have HN := Lib.hid hn
  have HI := Lib.hid ha
  have HT := Lib.hid hT
  have HF := Lib.hid hf
  have hx : n ≤ 8 := by omega
  have hz8 : zs.length ≤ 8 := by omega
  have HZ : Hid (∀ z ∈ zs, z.toNat < 2 ^ m) := Lib.hid (fun z hz => by
    have h1 := hz4 z hz
    have h2 : ((2 ^ m : Nat) : Int) = (2 : Int) ^ m := by simp
    have h3 : fullI (m : Int) = ((2 ^ m - 1 : Nat) : Int) := full_nat m
    have h4 : 1 ≤ 2 ^ m := Nat.one_le_two_pow
    omega)
  rw [← hn] at hcl q1 ⊢
  have c0 := (blk_cell q0 0).trans (cell1_0 _)
  have c1a := (blk_cell q1 0).trans (cell2_0 _ _)
  have c1b := (blk_cell q1 1).trans (cell2_1 _ _)
  have Q0 := Lib.hid q0
  have Q1 := Lib.hid q1
  have HB3 := Lib.hid hb3
  have HO3 := Lib.hid hown3
  have HS3 := Lib.hid hs3
  have HMB := Lib.hid hown.blk
  have hmx : Tryd.prog.follows .mixedOrders = true := by kernel_rfl
  clear ha hT hf hn hz4 hown2 hg3 q0 q1 hb3 hown3 hown
  refine (callsIn_wide (n := 6)).1 ?_
  refine callsIn_of_wp_marks Tryd.func83 rfl trivial ?_ rfl
  simp only [Tryd.ntmps83, List.size_toArray, List.length_cons, List.length_nil, Nat.reduceAdd, Nat.reduceSub, Array.replicate_succ, Array.replicate_zero, List.push_toArray, List.append_toArray, List.nil_append, List.cons_append]
  gi_wp2_with (refine ⟨trivial, ?_⟩; gi_at_call 98; refine (callsIn_wide.2 (allNames_any _ _)).mono ?_; rintro e w' ⟨rfl, rfl⟩)
  obtain ⟨Bm, hBm⟩ : ∃ Bm, Bm = W3.heap.size := ⟨_, rfl⟩
  have hc4 : (W3.alloc (.cells #[.int .i64 (m : Int)] 3)).cell? ⟨Bm, 0, none⟩ = some (.int .i64 (m : Int)) := by rw [hBm]; exact (blk_cell (alloc_new _ _) 0).trans (cell1_0 _)
  have hO4 : OwnT (W3.alloc (.cells #[.int .i64 (m : Int)] 3)) b 0 (.map []) := HO3.out.alloc _
  have hB4 := HB3.out.trans (But.alloc W3 (.cells #[.int .i64 (m : Int)] 3))
  have hQ0 : HasBlk (W3.alloc (.cells #[.int .i64 (m : Int)] 3)) w.heap.size #[.map (some b)] 75 := HasBlk.alloc Q0.out _
  have hQ1 : HasBlk (W3.alloc (.cells #[.int .i64 (m : Int)] 3)) (w.heap.size + 1) #[.int .i64 (m : Int), .slice a n c] 25 := HasBlk.alloc Q1.out _
  have hs4 : (W3.alloc (.cells #[.int .i64 (m : Int)] 3)).heap.size = Bm + 1 := by rw [hBm]; simp
  obtain ⟨W4, hW4⟩ : ∃ W4, W3.alloc (.cells #[.int .i64 (m : Int)] 3) = W4 := ⟨_, rfl⟩
  rw [← hBm]
  rw [hW4] at hc4 hO4 hB4 hQ0 hQ1 hs4 ⊢
  have hT4 : Tab W4 := tab_but HT.out hB4 (fun k e => by omega)
  have hwB : w.heap.size + 1 < Bm := by have := HS3.out; omega
  have Q0 := Lib.hid hQ0
  have Q1 := Lib.hid hQ1
  have HB4 := Lib.hid hB4
  have HO4 := Lib.hid hO4
  have HSO := Lib.hid hs4
  have HT4 := Lib.hid hT4
  clear c0 c1a c1b hcl hW4 hBm hO4 hB4 hQ0 hQ1
  refine wpIn_rangeFunc_cells (n := 6) (by omega) (gf := 106) (lb := #[.pointer (some ⟨Bm, 0, none⟩)]) rfl (enters_of Tryd.func106 (by kernel_rfl) rfl)
    (allNames1_in m b (6 - 1) hm0 hm hb1 Bm W4 (by omega) hc4 hT4) (Below.refl _ _) (by omega) (fun _ => rfl)
    (fun x A l o h hl => ⟨h.1, by obtain ⟨a', c', e, hi⟩ := h.2; exact ⟨a', c', e, by simpa using ints_putObj hi hl⟩⟩)
    (fun xs W => (∃ D, OwnT W b xs.length D ∧ TabD zs D (xs.map (·.2))) ∧ (∀ x ∈ xs, x.2.length = m ∧ ∀ v ∈ x.2, v < m) ∧ But (fun k => k = b) W4 W)
    ?own ⟨⟨_, HO4.out, tab_nil zs⟩, by simp, But.refl _ _⟩
    (fun x => { tmps := #[.map (some b), .agg #[.int .i64 (m : Int), .slice a n c], .pointer (some ⟨w.heap.size, 0, none⟩), .pointer (some ⟨w.heap.size + 1, 0, none⟩), x.1, undef, .map (some b), .pointer (some ⟨w.heap.size + 1, 0, none⟩), .int .i64 (m : Int), .func (.func 106) #[] #[.pointer (some ⟨Bm, 0, none⟩)], x.1, undef, undef, undef, undef, undef, undef, undef, undef, undef, undef], defers := [] }) ?assign ?body ?done
  case own =>
    rintro xs A C row ⟨⟨D, hO, hTd⟩, hall, hB⟩ hg hr
    have hs := HSO.out
    refine ⟨⟨D, hO.kept hg (fun e => by have := hr b e.symm; omega), hTd⟩, hall, ?_⟩
    exact ⟨hg.os.trans hB.os, hg.tape.trans hB.tape, hg.output.trans hB.output, Nat.le_trans hB.size hg.size, fun i hi hX => (hg.block i (Nat.lt_of_lt_of_le hi hB.size) (fun e => by have := hr i e.symm; omega)).trans (hB.same i hi hX)⟩
  case assign =>
    intro l x W K hK
    gi_wp2
    exact hK
  case body =>
    rintro l xs x W ⟨⟨D, hO, hTd⟩, hall, hB⟩ hok hlen
    obtain ⟨v, p⟩ := x
    obtain ⟨⟨hpl, hpv⟩, pa, pc, hv, hpi⟩ := hok
    simp only at hpl hpv hv hpi
    subst hv
    have hokp : Okp m (nI p) := okp_nI hm hpl hpv
    have hnm : NamesOk (nI p) := namesOk_nI hm0 hm hpl hpv
    have hpm : (nI p).length = m := by rw [nI_len, hpl]
    have hwk : WfK (keyL zs (nI p)) := wfK_key hm hz8 HZ.out hokp
    have hks := keyL_len zs (nI p) hz8
    have hWs : W4.heap.size ≤ W.heap.size := hB.size
    have hiW : Ints W W.heap.size a zs := (ints_but (ints_but HI.out (Nat.le_refl _) HB4.out HMB.out) (by have := HB4.out.size; omega) hB (by obtain ⟨es, clk, h⟩ := HO4.out.blk; exact ⟨es, clk, h⟩)).mono (by have := HSO.out; omega)
    have hTW : Tab W := tab_but HT4.out hB (fun k e => by omega)
    have HLB := listBy_any m a c zs pa pc (nI p) hokp W hiW hpi hTW HF.out
    rw [← HN.out, hpm] at HLB
    have x0 := (blk_cell (show HasBlk W (w.heap.size + 1) #[.int .i64 (m : Int), .slice a n c] 25 from hB.keep (by omega) Q1.out) 0).trans (cell2_0 _ _)
    have x1 := (blk_cell (show HasBlk W (w.heap.size + 1) #[.int .i64 (m : Int), .slice a n c] 25 from hB.keep (by omega) Q1.out) 1).trans (cell2_1 _ _)
    have hq0 : HasBlk W w.heap.size #[.map (some b)] 75 := hB.keep (by omega) Q0.out
    have hbW : b < W.heap.size := by omega
    have hwW : w.heap.size + 1 < W.heap.size := by have := HSO.out; omega
    have HO := Lib.hid hO
    have HTD := Lib.hid hTd
    have HALL := Lib.hid hall
    have HB := Lib.hid hB
    have HPI := Lib.hid hpi
    have HQ0 := Lib.hid hq0
    obtain ⟨y0, y1, y2, y3, y4, y5, y6, y7, hy⟩ : ∃ y0 y1 y2 y3 y4 y5 y6 y7 : Int, keyL zs (nI p) = [y0, y1, y2, y3, y4, y5, y6, y7] := by
      generalize keyL zs (nI p) = L at hks
      match L, hks with
      | [y0, y1, y2, y3, y4, y5, y6, y7], _ => exact ⟨_, _, _, _, _, _, _, _, rfl⟩
    have HIV : Hid (iv (keyL zs (nI p)) = #[.int .i64 y0, .int .i64 y1, .int .i64 y2, .int .i64 y3, .int .i64 y4, .int .i64 y5, .int .i64 y6, .int .i64 y7]) := Lib.hid (by rw [hy]; rfl)
    have HPL := Lib.hid hpl
    rw [hpl]
    clear hO hTd hall hB hpi hokp hiW hTW hq0 hpl hks hy
    gi_wp2_with (refine ⟨trivial, ?_⟩; gi_at_call 99; refine (CallsIn.inRound l (callsIn_wide.2 HLB)).mono ?_; rw [HIV.out]; rintro e w5 ⟨rfl, hb5⟩)
    have hb6 : Below W.heap.size W (w5.alloc (.cells #[.int .i64 y0, .int .i64 y1, .int .i64 y2, .int .i64 y3, .int .i64 y4, .int .i64 y5, .int .i64 y6, .int .i64 y7] 77)) := hb5.alloc hb5.size _
    have hq6 := alloc_new w5 (.cells #[.int .i64 y0, .int .i64 y1, .int .i64 y2, .int .i64 y3, .int .i64 y4, .int .i64 y5, .int .i64 y6, .int .i64 y7] 77)
    have hsz6 : (w5.alloc (.cells #[.int .i64 y0, .int .i64 y1, .int .i64 y2, .int .i64 y3, .int .i64 y4, .int .i64 y5, .int .i64 y6, .int .i64 y7] 77)).heap.size = w5.heap.size + 1 := by simp
    obtain ⟨W6, hW6⟩ : ∃ W6, w5.alloc (.cells #[.int .i64 y0, .int .i64 y1, .int .i64 y2, .int .i64 y3, .int .i64 y4, .int .i64 y5, .int .i64 y6, .int .i64 y7] 77) = W6 := ⟨_, rfl⟩
    rw [hW6] at hb6 hq6 hsz6 ⊢
    obtain ⟨Mb, hMb⟩ : ∃ Mb, Mb = w5.heap.size := ⟨_, rfl⟩
    rw [← hMb] at hq6 hsz6 ⊢
    have hMw : w.heap.size + 1 < Mb := by have := hb5.size; omega
    have hbM : b ≠ Mb := by have := hb5.size; omega
    have HPre : Hid (PreA W W6.drew w.heap.size Mb b xs.length m pa p #[.int .i64 y0, .int .i64 y1, .int .i64 y2, .int .i64 y3, .int .i64 y4, .int .i64 y5, .int .i64 y6, .int .i64 y7] D) := Lib.hid ⟨(hb6.block _ (by omega)).trans HQ0.out, hq6, (show Ints W6 W6.heap.size pa (nI p) from (HPI.out.below hb6).mono hb6.size), (show OwnT W6 b xs.length D from HO.out.but (But.of_below (X := fun _ => False) hb6) (fun h => h)), (But.of_below hb6).trans (But.drew W6)⟩
    have HMBE := Lib.hid hMb
    clear hMb hsz6 hW6
    refine wpIn_region_held (A := fun ls => { tmps := #[.map (some b), .agg #[.int .i64 (m : Int), .slice a n c], .pointer (some ⟨w.heap.size, 0, none⟩), .pointer (some ⟨w.heap.size + 1, 0, none⟩), .slice pa m pc, .pointer (some ⟨Mb, 0, none⟩), .map (some b), .pointer (some ⟨w.heap.size + 1, 0, none⟩), .int .i64 (m : Int), .func (.func 106) #[] #[.pointer (some ⟨Bm, 0, none⟩)], .slice pa m pc, .agg #[.int .i64 (m : Int), .slice a n c], .slice pa m pc, .agg #[.int .i64 y0, .int .i64 y1, .int .i64 y2, .int .i64 y3, .int .i64 y4, .int .i64 y5, .int .i64 y6, .int .i64 y7], bif ls.getD 0 false then .map (some b) else undef, bif ls.getD 1 false then .agg #[.int .i64 y0, .int .i64 y1, .int .i64 y2, .int .i64 y3, .int .i64 y4, .int .i64 y5, .int .i64 y6, .int .i64 y7] else undef, bif ls.getD 2 false then .map (some b) else undef, bif ls.getD 3 false then .agg #[.int .i64 y0, .int .i64 y1, .int .i64 y2, .int .i64 y3, .int .i64 y4, .int .i64 y5, .int .i64 y6, .int .i64 y7] else undef, bif ls.getD 4 false then .agg (iv (nmL zs (xs.map (·.2)) (keyL zs (nI p)))) else undef, bif ls.getD 5 false then .slice pa m pc else undef, bif ls.getD 6 false then .agg (iv (andL (nmL zs (xs.map (·.2)) (keyL zs (nI p))) (nI p))) else undef], defers := [] }) (S := fun ls W' => (ls.getD 7 false = true → ls.toList.all id = true) ∧ (if ls.getD 7 false then PostA W W' b (xs.length + 1) (D.put (keyLit (keyL zs (nI p))) (intsD (andL (nmL zs (xs.map (·.2)) (keyL zs (nI p))) (nI p)))) else PreA W W' w.heap.size Mb b xs.length m pa p #[.int .i64 y0, .int .i64 y1, .int .i64 y2, .int .i64 y3, .int .i64 y4, .int .i64 y5, .int .i64 y6, .int .i64 y7] D)) hmx (by kernel_rfl) rfl ⟨(fun h => (by cases h)), HPre.out⟩ ?step ?fin
    case step =>
      rintro listed W' i hsz hi hS
      obtain ⟨l0, l1, l2, l3, l4, l5, l6, l7, rfl⟩ := arr8 listed hsz
      obtain ⟨hi1, hi2⟩ := List.mem_filter.1 hi
      have hi8 : i < 8 := by simpa using hi1
      have hcase : i = 0 ∨ i = 1 ∨ i = 2 ∨ i = 3 ∨ i = 4 ∨ i = 5 ∨ i = 6 ∨ i = 7 := by omega
      rcases hcase with rfl | rfl | rfl | rfl | rfl | rfl | rfl | rfl
      · simp [Region.binds] at hi2
        subst hi2
        have h7 : l7 = false := by
          cases l7
          · rfl
          · have := hS.1 rfl
            simp at this
        subst h7
        have hP : PreA W W' w.heap.size Mb b xs.length m pa p #[.int .i64 y0, .int .i64 y1, .int .i64 y2, .int .i64 y3, .int .i64 y4, .int .i64 y5, .int .i64 y6, .int .i64 y7] D := hS.2
        refine wpOpIn_of_list rfl ?_
        have ck := (blk_cell hP.k 0).trans (cell1_0 _)
        gi_wp2
        first | exact ⟨rfl, hP⟩ | exact hP | exact ⟨rfl, (fun h => (by cases h)), hP⟩
      · simp [Region.binds] at hi2
        subst hi2
        have h7 : l7 = false := by
          cases l7
          · rfl
          · have := hS.1 rfl
            simp at this
        subst h7
        have hP : PreA W W' w.heap.size Mb b xs.length m pa p #[.int .i64 y0, .int .i64 y1, .int .i64 y2, .int .i64 y3, .int .i64 y4, .int .i64 y5, .int .i64 y6, .int .i64 y7] D := hS.2
        refine wpOpIn_of_list rfl ?_
        have e0 := blk_cell hP.q 0
        have e1 := blk_cell hP.q 1
        have e2 := blk_cell hP.q 2
        have e3 := blk_cell hP.q 3
        have e4 := blk_cell hP.q 4
        have e5 := blk_cell hP.q 5
        have e6 := blk_cell hP.q 6
        have e7 := blk_cell hP.q 7
        simp only [List.getElem?_toArray, List.getElem?_cons_zero, List.getElem?_cons_succ] at e0 e1 e2 e3 e4 e5 e6 e7
        gi_wp2
        first | exact ⟨rfl, hP⟩ | exact hP | exact ⟨rfl, (fun h => (by cases h)), hP⟩
      · simp [Region.binds] at hi2
        subst hi2
        have h7 : l7 = false := by
          cases l7
          · rfl
          · have := hS.1 rfl
            simp at this
        subst h7
        have hP : PreA W W' w.heap.size Mb b xs.length m pa p #[.int .i64 y0, .int .i64 y1, .int .i64 y2, .int .i64 y3, .int .i64 y4, .int .i64 y5, .int .i64 y6, .int .i64 y7] D := hS.2
        refine wpOpIn_of_list rfl ?_
        have ck := (blk_cell hP.k 0).trans (cell1_0 _)
        gi_wp2
        first | exact ⟨rfl, hP⟩ | exact hP | exact ⟨rfl, (fun h => (by cases h)), hP⟩
      · simp [Region.binds] at hi2
        subst hi2
        have h7 : l7 = false := by
          cases l7
          · rfl
          · have := hS.1 rfl
            simp at this
        subst h7
        have hP : PreA W W' w.heap.size Mb b xs.length m pa p #[.int .i64 y0, .int .i64 y1, .int .i64 y2, .int .i64 y3, .int .i64 y4, .int .i64 y5, .int .i64 y6, .int .i64 y7] D := hS.2
        refine wpOpIn_of_list rfl ?_
        have e0 := blk_cell hP.q 0
        have e1 := blk_cell hP.q 1
        have e2 := blk_cell hP.q 2
        have e3 := blk_cell hP.q 3
        have e4 := blk_cell hP.q 4
        have e5 := blk_cell hP.q 5
        have e6 := blk_cell hP.q 6
        have e7 := blk_cell hP.q 7
        simp only [List.getElem?_toArray, List.getElem?_cons_zero, List.getElem?_cons_succ] at e0 e1 e2 e3 e4 e5 e6 e7
        gi_wp2
        first | exact ⟨rfl, hP⟩ | exact hP | exact ⟨rfl, (fun h => (by cases h)), hP⟩
      · simp [Region.binds] at hi2
        obtain ⟨rfl, rfl, rfl⟩ := hi2
        have h7 : l7 = false := by
          cases l7
          · rfl
          · have := hS.1 rfl
            simp at this
        subst h7
        have hP : PreA W W' w.heap.size Mb b xs.length m pa p #[.int .i64 y0, .int .i64 y1, .int .i64 y2, .int .i64 y3, .int .i64 y4, .int .i64 y5, .int .i64 y6, .int .i64 y7] D := hS.2
        refine wpOpIn_of_list rfl ?_
        refine wpListIn_lookup_row W' rfl _ _ rfl b xs.length D rfl hP.o _ (keyLit (keyL zs (nI p))) rfl (by rw [← HIV.out]; exact keyLit_key hwk) _ (HTD.out.at_ _ hwk) ?_
        gi_wp2
        first | exact ⟨rfl, hP⟩ | exact hP | exact ⟨rfl, (fun h => (by cases h)), hP⟩
      · simp [Region.binds] at hi2
        subst hi2
        have h7 : l7 = false := by
          cases l7
          · rfl
          · have := hS.1 rfl
            simp at this
        subst h7
        have hP : PreA W W' w.heap.size Mb b xs.length m pa p #[.int .i64 y0, .int .i64 y1, .int .i64 y2, .int .i64 y3, .int .i64 y4, .int .i64 y5, .int .i64 y6, .int .i64 y7] D := hS.2
        refine wpOpIn_of_list rfl ?_
        gi_wp2
        first | exact ⟨rfl, hP⟩ | exact hP | exact ⟨rfl, (fun h => (by cases h)), hP⟩
      · simp [Region.binds] at hi2
        obtain ⟨rfl, rfl, rfl⟩ := hi2
        have h7 : l7 = false := by
          cases l7
          · rfl
          · have := hS.1 rfl
            simp at this
        subst h7
        have hP : PreA W W' w.heap.size Mb b xs.length m pa p #[.int .i64 y0, .int .i64 y1, .int .i64 y2, .int .i64 y3, .int .i64 y4, .int .i64 y5, .int .i64 y6, .int .i64 y7] D := hS.2
        refine wpOpIn_of_list rfl ?_
        have hno : NmOk (nmL zs (xs.map (·.2)) (keyL zs (nI p))) (xs.map (·.2)).length := nmOk_all _ _ _ (fun q hq => by obtain ⟨x, hx, rfl⟩ := List.mem_map.1 hq; exact namesOk_nI hm0 hm (HALL.out x hx).1 (HALL.out x hx).2)
        have hAND := and_any (nmL zs (xs.map (·.2)) (keyL zs (nI p))) hno.len hno.lo (by have h1 := hno.hi; have h2 : xs.length < 6 ^ m := hlen; have h3 : 6 ^ m ≤ 6 ^ 6 := Nat.pow_le_pow_right (by decide) hm; rw [List.length_map] at h1; omega) hno.cal pa pc (nI p) hnm.1 hnm.2.1 hnm.2.2 W' hP.i
        rw [hpm] at hAND
        clear hno
        gi_wp2_with (refine ⟨trivial, ?_⟩; gi_at_call 100; refine (CallsIn.inRound l (callsIn_wide.2 hAND)).mono ?_; rintro e w7 ⟨rfl, hb7⟩)
        first | exact ⟨rfl, hP.below hb7⟩ | exact hP.below hb7 | exact ⟨rfl, (fun h => (by cases h)), hP.below hb7⟩
      · simp [Region.binds] at hi2
        obtain ⟨rfl, rfl, rfl, rfl, -, -, rfl, rfl, rfl, rfl, -⟩ := hi2
        have hP : PreA W W' w.heap.size Mb b xs.length m pa p #[.int .i64 y0, .int .i64 y1, .int .i64 y2, .int .i64 y3, .int .i64 y4, .int .i64 y5, .int .i64 y6, .int .i64 y7] D := hS.2
        refine wpOpIn_of_list rfl ?_
        refine wpListIn_mapUpdate_own W' rfl _ _ _ 75 rfl 77 102 keyLaw Tryd.underlying75 rowR b xs.length D rfl hP.o (by have h2 : xs.length < 6 ^ m := hlen; have h3 : 6 ^ m ≤ 6 ^ 6 := Nat.pow_le_pow_right (by decide) hm; simp only [maxLen]; omega) _ _ (keyLit (keyL zs (nI p))) rfl rfl (by rw [← HIV.out]; exact keyLit_key hwk) _ [] (rowR_mk _) ?_
        intro w8 hown8 hg8
        gi_wp2
        first | exact ⟨hown8, hP.t.trans (But.of_grownBy hg8 (fun r e _ => by injection e with e; exact e.symm))⟩ | exact ⟨rfl, hown8, hP.t.trans (But.of_grownBy hg8 (fun r e _ => by injection e with e; exact e.symm))⟩ | exact ⟨rfl, (fun h => rfl), hown8, hP.t.trans (But.of_grownBy hg8 (fun r e _ => by injection e with e; exact e.symm))⟩
    case fin =>
      rintro listed W' hsz hal hS
      obtain ⟨l0, l1, l2, l3, l4, l5, l6, l7, rfl⟩ := arr8 listed hsz
      simp at hal
      obtain ⟨rfl, rfl, rfl, rfl, rfl, rfl, rfl, rfl⟩ := hal
      have hP : PostA W W' b (xs.length + 1) (D.put (keyLit (keyL zs (nI p))) (intsD (andL (nmL zs (xs.map (·.2)) (keyL zs (nI p))) (nI p)))) := hS.2
      gi_wp2
      refine ⟨hP.t, ⟨_, by rw [List.length_append]; exact hP.o, ?_⟩, ?_, HB.out.trans hP.t⟩
      · rw [List.map_append]
        exact tab_put HTD.out HO.out.isMap (fun q hq => by obtain ⟨x, hx, rfl⟩ := List.mem_map.1 hq; exact wfK_key hm hz8 HZ.out (okp_nI hm (HALL.out x hx).1 (HALL.out x hx).2)) p hwk
      · intro x1 x2 hx
        rcases List.mem_append.1 hx with h | h
        · exact HALL.out (x1, x2) h
        · have h2 := congrArg Prod.snd (List.mem_singleton.1 h)
          simp only at h2
          rw [h2]; exact ⟨HPL.out, hpv⟩
  case done =>
    rintro D ys W hD hys ⟨⟨D1, hO, hTd⟩, hall, hB⟩ hK
    have HK := Lib.hid hK
    have HO := Lib.hid hO
    have HB := Lib.hid hB
    rw [hys] at hTd
    have HTD := Lib.hid hTd
    have HDne : Hid (D ≠ b) := Lib.hid (by have := HSO.out; omega)
    have hDlt : W4.heap.size ≤ D := hD
    clear hK hO hB hTd hall
    gi_wp2
    refine ⟨by simp, .inl ⟨_, _, rfl, run_takeDeferred HK.out, ?_⟩⟩
    have hD0 : w.heap.size ≤ D := by have := HB4.out.size; omega
    have hbu : But (fun k => k = b) w W := HB4.out.trans HB.out
    refine ⟨_, results_none rfl _ _ _, rfl, ⟨_, D1, HO.out.kept (grownBy_putObj' W D _) (fun e => by injection e with e; exact HDne.out e.symm), HTD.out⟩, ?_⟩
    exact ⟨hbu.os, hbu.tape, hbu.output, by have := hbu.size; simpa using this, fun i hi hX => (World.putObj_heap_other (by omega)).trans (hbu.same i hi hX)⟩

end Go.Proofs.YtgpgocijacgkhaaDoor

/- It is proved what cmp.Compare and slices.Compare return for ints; conditions: those of each statement. -/
namespace Go.Proofs.YtgpgocijacgkhaaDoor
open Go.RowKit Go.Shelf

def cmpI (x y : Int) : Int := if x < y then -1 else if y < x then 1 else 0
def cmpZ (xs ys : List Int) : Int := if lexB xs ys then -1 else if lexB ys xs then 1 else 0
theorem cmpZ_ne {i : Nat} {xs ys : List Int} (h1 : i < xs.length) (h2 : i < ys.length) (h : ∀ j, j < i → xs[j]?.getD 0 = ys[j]?.getD 0) (hn : xs[i]?.getD 0 ≠ ys[i]?.getD 0) : cmpZ xs ys = cmpI (xs[i]?.getD 0) (ys[i]?.getD 0) := by
  unfold cmpZ cmpI
  rw [lex_ne h1 h2 h hn, lex_ne h2 h1 (fun j hj => (h j hj).symm) (fun e => hn e.symm)]
  simp

theorem lexB_self : ∀ xs : List Int, lexB xs xs = false
  | [] => rfl
  | x :: xs => by rw [lexB, if_pos rfl]; exact lexB_self xs

theorem cmpZ_self (xs : List Int) : cmpZ xs xs = 0 := by simp [cmpZ, lexB_self]
set_option maxRecDepth 100000 in
theorem isNaN_any (x : Int) (w : World) : Calls Tryd.prog 113 #[.int .i64 x] w fun e w' => e = .returned (.bool false) ∧ w = w' := by
  have hx : (x != x) = false := by simp
  go_enter Tryd.func113, Tryd.ntmps113
  go_wp2
  go_ret
  exact ⟨by simp, rfl⟩

set_option maxRecDepth 100000 in
theorem cmpInt_any (x y : Int) (w : World) : Calls Tryd.prog 110 #[.int .i64 x, .int .i64 y] w fun e w' => e = .returned (.int .i64 (cmpI x y)) ∧ w = w' := by
  have h1 := isNaN_any x w
  have h2 := isNaN_any y w
  rcases Int.lt_trichotomy x y with h | h | h
  · go_enter Tryd.func110, Tryd.ntmps110
    go_wp2_with (go_at_call 113; first | (refine h1.mono ?_; rintro e w' ⟨rfl, rfl⟩) | (refine h2.mono ?_; rintro e w' ⟨rfl, rfl⟩))
    go_ret
    exact ⟨by unfold cmpI; rw [if_pos h]; rfl, rfl⟩
  · subst h
    go_enter Tryd.func110, Tryd.ntmps110
    go_wp2_with (go_at_call 113; refine h1.mono ?_; rintro e w' ⟨rfl, rfl⟩)
    go_ret
    exact ⟨by unfold cmpI; rw [if_neg (by omega), if_neg (by omega)]; rfl, rfl⟩
  · have hn : ¬ x < y := by omega
    go_enter Tryd.func110, Tryd.ntmps110
    go_wp2_with (go_at_call 113; first | (refine h1.mono ?_; rintro e w' ⟨rfl, rfl⟩) | (refine h2.mono ?_; rintro e w' ⟨rfl, rfl⟩))
    go_ret
    exact ⟨by unfold cmpI; rw [if_neg (by omega), if_pos h]; rfl, rfl⟩

set_option maxRecDepth 100000 in
set_option maxHeartbeats 4000000 in
theorem compareS_any (a b : Option Addr) (c d n : Nat) (xs ys : List Int) (w : World) (hx : xs.length = n) (hy : ys.length = n) (hn : n ≤ 1048576) (ha : Ints w w.heap.size a xs) (hb : Ints w w.heap.size b ys) :
    Calls Tryd.prog 103 #[.slice a n c, .slice b n d] w fun e w' => e = .returned (.int .i64 (cmpZ xs ys)) ∧ w = w' := by
  have HX := Lib.hid hx
  have HY := Lib.hid hy
  have HA := Lib.hid ha
  have HB := Lib.hid hb
  clear hx hy ha hb
  go_enter Tryd.func103, Tryd.ntmps103
  go_wp2
  go_loop [11] (fun i => ∃ k : Nat, k ≤ n ∧ i = .int .i64 (k : Int) ∧ (∀ j, j < k → xs[j]?.getD 0 = ys[j]?.getD 0)) (fun i => n - (intOf i).toNat)
  case atStart => exact ⟨0, Nat.zero_le _, rfl, fun j h => by omega⟩
  case round =>
    obtain ⟨k, hk, rfl, he⟩ := hrel
    by_cases hlt : k < n
    · obtain ⟨b1, o1, rfl, -, c1⟩ := HA.out.at_ (k := k) (by rw [HX.out]; exact hlt)
      obtain ⟨b2, o2, rfl, -, c2⟩ := HB.out.at_ (k := k) (by rw [HY.out]; exact hlt)
      obtain ⟨x, hxe⟩ : ∃ x, x = xs[k]?.getD 0 := ⟨_, rfl⟩
      obtain ⟨y, hye⟩ : ∃ y, y = ys[k]?.getD 0 := ⟨_, rfl⟩
      rw [← hxe] at c1
      rw [← hye] at c2
      have hk0 : (0 : Int) ≤ (k : Int) := by omega
      have hki : (k : Int) < (n : Int) := by omega
      have hkg : ¬ ((n : Int) ≤ (k : Int)) := by omega
      obtain ⟨z, hz⟩ : ∃ z, z = cmpI x y := ⟨_, rfl⟩
      have hcc := cmpInt_any x y w
      rw [← hz] at hcc
      by_cases hxy : x = y
      · have HE : Hid (∀ j, j < k + 1 → xs[j]?.getD 0 = ys[j]?.getD 0) := Lib.hid (fun j hj => by
          rcases Nat.lt_succ_iff_lt_or_eq.1 hj with h | rfl
          · exact he j h
          · rw [← hxe, ← hye]; exact hxy)
        have hz0 : z = 0 := by rw [hz, hxy]; unfold cmpI; rw [if_neg (by omega), if_neg (by omega)]
        clear he hxe hye hz hxy
        subst hz0
        go_wp2_with (go_at_call 110; refine hcc.mono ?_; rintro e w' ⟨rfl, rfl⟩)
        go_round
        case rel => exact ⟨k + 1, by omega, by go_num, HE.out⟩
        case measure => simp [intOf]; omega
      · have HF : Hid (cmpZ xs ys = z) := Lib.hid (by rw [hz, hxe, hye]; exact cmpZ_ne (by rw [HX.out]; exact hlt) (by rw [HY.out]; exact hlt) he (by rw [← hxe, ← hye]; exact hxy))
        have hz0 : (z != 0) = true := by
          rw [bne_iff_ne, hz]; unfold cmpI
          split
          · decide
          · rw [if_pos (by omega)]; decide
        clear he hxe hye hz hxy
        go_wp2_with (go_at_call 110; refine hcc.mono ?_; rintro e w' ⟨rfl, rfl⟩)
        go_ret
        exact ⟨by rw [HF.out]; rfl, rfl⟩
    · obtain rfl : k = n := by omega
      have HF : Hid (cmpZ xs ys = 0) := Lib.hid (by
        have : xs = ys := List.ext_getElem (by rw [HX.out, HY.out]) (fun j h1 h2 => by
          have := he j (by rw [← HX.out]; exact h1)
          rwa [List.getElem?_eq_getElem h1, List.getElem?_eq_getElem h2] at this)
        rw [this]; exact cmpZ_self ys)
      clear he
      go_wp2
      go_ret
      exact ⟨by rw [HF.out]; rfl, rfl⟩

end Go.Proofs.YtgpgocijacgkhaaDoor

/- It is proved what compare of clubList returns; conditions: those of each statement. -/
namespace Go.Proofs.YtgpgocijacgkhaaDoor
open Go.RowKit Go.Shelf

theorem eight {xs : List Int} (h : xs.length = 8) : ∃ x0 x1 x2 x3 x4 x5 x6 x7 : Int, xs = [x0, x1, x2, x3, x4, x5, x6, x7] := by
  match xs, h with
  | [x0, x1, x2, x3, x4, x5, x6, x7], _ => exact ⟨_, _, _, _, _, _, _, _, rfl⟩

theorem ints_blk {W : World} {b : Nat} {t : TypeId} {xs : List Int} (h : HasBlk W b (iv xs) t) (B : Nat) (hb : b < B) : Ints W B (some ⟨b, 0, none⟩) xs :=
  .inr ⟨b, 0, rfl, hb, fun j hj => by rw [Nat.zero_add]; exact (blk_cell h j).trans (iv_at xs j hj)⟩

set_option maxRecDepth 100000 in
set_option maxHeartbeats 2000000 in
theorem cmpList_any (xs ys : List Int) (hx : xs.length = 8) (hy : ys.length = 8) (w : World) :
    Calls Tryd.prog 87 #[.agg (iv xs), .agg (iv ys)] w fun e w' => e = .returned (.int .i64 (cmpZ xs ys)) ∧ Below w.heap.size w w' := by
  have hb1 := below2 w (.cells (iv xs) 77) (.cells (iv ys) 77)
  have q0 := alloc2_0 w (.cells (iv xs) 77) (.cells (iv ys) 77)
  have q1 := alloc2_1 w (.cells (iv xs) 77) (.cells (iv ys) 77)
  have hs1 : ((w.alloc (.cells (iv xs) 77)).alloc (.cells (iv ys) 77)).heap.size = w.heap.size + 1 + 1 := by simp
  obtain ⟨w1, hw1⟩ : ∃ w1, (w.alloc (.cells (iv xs) 77)).alloc (.cells (iv ys) 77) = w1 := ⟨_, rfl⟩
  rw [hw1] at hb1 q0 q1 hs1
  have hd : HasBlk w1.drew w.heap.size (iv xs) 77 := q0
  have hd1 : HasBlk w1.drew (w.heap.size + 1) (iv ys) 77 := q1
  have hc := compareS_any (some ⟨w.heap.size, 0, none⟩) (some ⟨w.heap.size + 1, 0, none⟩) 8 8 8 xs ys w1.drew hx hy (by decide) (ints_blk hd _ (show w.heap.size < w1.heap.size by omega)) (ints_blk hd1 _ (show w.heap.size + 1 < w1.heap.size by omega))
  have HB1 := Lib.hid hb1
  obtain ⟨z, hz⟩ : ∃ z, z = cmpZ xs ys := ⟨_, rfl⟩
  rw [← hz] at hc ⊢
  obtain ⟨x0, x1, x2, x3, x4, x5, x6, x7, rfl⟩ := eight hx
  obtain ⟨y0, y1, y2, y3, y4, y5, y6, y7, rfl⟩ := eight hy
  rw [show iv [x0, x1, x2, x3, x4, x5, x6, x7] = #[.int .i64 x0, .int .i64 x1, .int .i64 x2, .int .i64 x3, .int .i64 x4, .int .i64 x5, .int .i64 x6, .int .i64 x7] from rfl, show iv [y0, y1, y2, y3, y4, y5, y6, y7] = #[.int .i64 y0, .int .i64 y1, .int .i64 y2, .int .i64 y3, .int .i64 y4, .int .i64 y5, .int .i64 y6, .int .i64 y7] from rfl] at hw1 ⊢
  clear hb1 q0 q1 hd hd1 hx hy hz
  go_enter Tryd.func87, Tryd.ntmps87
  go_wp2
  go_region_held3 (fun w' => w' = w1.drew) (exact rfl) (first
    | (go_at_call 103; refine hc.mono ?_; rintro e w2 ⟨rfl, rfl⟩))
  rename_i hHeld
  clear hHeld
  go_wp2
  go_ret
  exact ⟨rfl, HB1.out.drew⟩

end Go.Proofs.YtgpgocijacgkhaaDoor
