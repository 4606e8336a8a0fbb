/- It is proved what the program's MeetOrder returns; conditions: those of each statement. -/
import Derived.RowKit
import Derived.Laws.CopyRow
import Derived.Lib.SlBuf
import Derived.Deep.QuietTactic
import Derived.RangeFuncNested
import Derived.RangeFuncBound
import Derived.RangeFuncCalls
import Derived.RangeFuncLeaves
import Derived.RangeFuncBox
import Derived.RangeFuncWrites
import Derived.StillTailTactics
import Derived.Maps.OwnIn
import Derived.Maps.Ext
import Derived.DeepKeys4
import Derived.MapKept
import Derived.Test.YtgjcjllhkkkioaaDoorRows
import Derived.WalkKit
import Derived.WalkSpells
import Derived.ProofKit
import Derived.OpenShut
import Derived.ShutString
import Derived.ChangeOld
import Derived.Below
import Derived.Deep.RegionHeld3
import Derived.BigQuiet
import Derived.Lib.Hide
import Derived.Lib.SmallJoins
import Derived.Outline
import Derived.Laws.MakeOwn
import Derived.Laws.OwnMore
import Derived.IntWalk
import Derived.Maps.AppendAt
import Derived.Sort.MapsRangeIn
import Derived.Deep.RegionLaw
import Derived.Deep.AppendLies
import Derived.Lib.AppendZeros
import Derived.OwnWalk
import Derived.Lib.SlicesCompact
import Derived.Lib.OwnBridge
import Derived.OrdersIn
import Derived.TacticsIn
import Derived.Shelf.Sort.Plain
import Derived.Shelf.Slices.In.SortNone
import Derived.Shelf.Slices.CompactI
import Derived.Ground.Names2Prog
import Derived.Lib.SliceRun
import Derived.Laws.BitsAllLaws
import Derived.Shelf.RegionOpen
import Derived.Shelf.Abstract
import Derived.OwnWalkIn
import Derived.TacticsInMore
import Derived.LoopNIn
import Derived.LoopIn
import Derived.StillTail
import Derived.StillTactics
import Derived.Shelf.Spec.TrailingZeros
import Derived.Test.YtgjcjllhkkkioaaDoorRaab
import Derived.Test.YtgjcjllhkkkioaaDoorRaac
import Derived.Test.YtgjcjllhkkkioaaDoorRaad
import Derived.Test.YtgjcjllhkkkioaaDoorRabhxMeetOr
import Derived.Test.YtgjcjllhkkkioaaDoorRaaa
import Derived.Test.YtgjcjllhkkkioaaDoorRaaf
import Derived.Test.YtgjcjllhkkkioaaDoorRaae
import Derived.Test.YtgjcjllhkkkioaaDoorRaav
import Derived.Test.YtgjcjllhkkkioaaDoorRaay
import Derived.Test.YtgjcjllhkkkioaaDoorRabb
import Derived.Test.YtgjcjllhkkkioaaDoorRaau
import Derived.Test.YtgjcjllhkkkioaaDoorRabixMeetOr
import Derived.Test.YtgjcjllhkkkioaaDoorRabjxMeetOr
import Derived.Test.YtgjcjllhkkkioaaDoorXe
import Derived.Test.YtgjcjllhkkkioaaDoorRaal
namespace Go.Proofs.YtgjcjllhkkkioaaDoor
open Go.RowKit Go.Shelf

attribute [local go_sem] Oper.semAt_some

/-- The first even order. -/
def firstO (m : Nat) (zs : List Int) : Option (List Nat) := (permsL m (List.range m)).find? fun p => !brkC zs (nI p)

def ordZ (m : Int) (zs : List Int) : List Int := if famIn m zs then nI ((firstO m.toNat zs).getD []) else []
def ordB (m : Int) (zs : List Int) : Bool := famIn m zs && (firstO m.toNat zs).isSome
theorem firstO_none {m : Nat} {zs : List Int} {xs : List (Value × List Nat)} (hS : xs.map (·.2) = permsL m (List.range m)) (h : ∀ y ∈ xs, brkC zs (nI y.2) = true) : firstO m zs = none := by
  unfold firstO
  rw [← hS, List.find?_eq_none]
  intro p hp
  obtain ⟨y, hy, rfl⟩ := List.mem_map.1 hp
  rw [h y hy]; decide

theorem firstO_some {m : Nat} {zs : List Int} {pre0 : List (Value × List Nat)} {x : Value × List Nat} (hS : (pre0 ++ [x]).map (·.2) <+: permsL m (List.range m)) (h : ∀ y ∈ pre0, brkC zs (nI y.2) = true) (hx : brkC zs (nI x.2) = false) : firstO m zs = some x.2 := by
  obtain ⟨r, hr⟩ := hS
  unfold firstO
  rw [← hr, List.map_append, List.append_assoc, List.find?_append, List.find?_eq_none.2 (fun p hp => by
    obtain ⟨y, hy, rfl⟩ := List.mem_map.1 hp
    rw [h y hy]; decide)]
  simp [hx]

theorem nI_in6 {m : Nat} (hm6 : m ≤ 6) {p : List Nat} (h : ∀ v ∈ p, v < m) : ∀ x ∈ nI p, 0 ≤ x ∧ x < 6 := by
  intro x hx
  unfold nI at hx
  obtain ⟨v, hv, rfl⟩ := List.mem_map.1 hx
  have := h v hv
  omega

set_option maxRecDepth 100000 in
set_option maxHeartbeats 4000000 in
theorem implMeetOrder_any (mI : Int) (a : Option Addr) (c : Nat) (zs : List Int) (w : World) (ha : Ints w w.heap.size a zs) (hT : Tab w) (hx : zs.length ≤ 1048576) :
    Calls Tryd.prog 27 #[.agg #[.int .i64 mI, .slice a zs.length c]] w (RetSB w (ordZ mI zs) (ordB mI zs)) := by
  have hT1 := hT.lt
  have h16 : 1 ≤ 6 := by omega
  obtain ⟨W3, hW3, q0, q1, q2, hs3, hb3⟩ : ∃ W3, ((w.alloc (.cells #[.int .i64 mI, .slice a zs.length c] 26)).alloc (.cells #[.slice none 0 0] 22)).alloc (.cells #[.bool false] 4) = W3 ∧ HasBlk W3 w.heap.size #[.int .i64 mI, .slice a zs.length c] 26 ∧ Boxed W3 (w.heap.size + 1) 22 (.slice none 0 0) ∧ Boxed W3 (w.heap.size + 1 + 1) 4 (.bool false) ∧ W3.heap.size = w.heap.size + 1 + 1 + 1 ∧ Below w.heap.size w W3 :=
    ⟨_, rfl, alloc3_0 w _ _ _, alloc3_1 w _ _ _, alloc3_2 w _ _ _, by simp, below3 w _ _ _⟩
  have y0 := (blk_cell q0 0).trans (cell2_0 _ _)
  have y1 := (blk_cell q0 1).trans (cell2_1 _ _)
  rw [← hW3] at y0 y1
  have HFI := Lib.hid (implFamilyIn_any mI a c zs W3 ((ha.below hb3).mono hb3.size) hx)
  have HW3 := Lib.hid hW3
  have HS3 := Lib.hid hs3
  have HB3 := Lib.hid hb3
  have HQ0 := Lib.hid q0
  have HQ1 := Lib.hid q1
  have HQ2 := Lib.hid q2
  have HA := Lib.hid ha
  have HT := Lib.hid hT
  clear ha hT q0 q1 q2 hs3 hb3 hW3
  cases hf : famIn mI zs
  · have HF := Lib.hid hf
    have HZ : Hid (ordZ mI zs = []) := Lib.hid (by unfold ordZ; rw [hf]; rfl)
    have HO : Hid (ordB mI zs = false) := Lib.hid (by unfold ordB; rw [hf]; rfl)
    clear hf
    rw [HZ.out, HO.out]
    refine (callsIn_wide (n := 6)).1 ?_
    refine callsIn_of_wp Tryd.func27 rfl trivial ?_ rfl
    simp only [Tryd.ntmps27, List.size_toArray, List.length_cons, List.length_nil, Nat.reduceAdd, Nat.reduceSub, Array.replicate_succ, Array.replicate_zero, List.push_toArray, List.append_toArray, List.nil_append, List.cons_append]
    gi_wp2_with fail
    refine ⟨trivial, ?_⟩
    rw [HW3.out]
    refine (callsIn_wide.2 HFI.out).mono ?_
    rintro e w1 ⟨rfl, hb1⟩
    rw [HF.out]
    have r1 : Boxed w1 (w.heap.size + 1) 22 (.slice none 0 0) := (hb1.block _ (by have := HS3.out; omega)).trans HQ1.out
    have r2 : Boxed w1 (w.heap.size + 1 + 1) 4 (.bool false) := (hb1.block _ (by have := HS3.out; omega)).trans HQ2.out
    have c1 := r1.cell
    have f1 := r1.frozen
    have r2' : Boxed (w1.setCell ⟨w.heap.size + 1, 0, none⟩ (.slice none 0 0)) (w.heap.size + 1 + 1) 4 (.bool false) := Boxed.other r2 (by omega) _
    have c2 := r2'.cell
    have f2 := r2'.frozen
    have e1 := (show Boxed ((w1.setCell ⟨w.heap.size + 1, 0, none⟩ (.slice none 0 0)).setCell ⟨w.heap.size + 1 + 1, 0, none⟩ (.bool false)) (w.heap.size + 1) 22 (.slice none 0 0) from Boxed.other (r1.set _) (by omega) _).cell
    have e2 := (show Boxed ((w1.setCell ⟨w.heap.size + 1, 0, none⟩ (.slice none 0 0)).setCell ⟨w.heap.size + 1 + 1, 0, none⟩ (.bool false)) (w.heap.size + 1 + 1) 4 (.bool false) from r2'.set _).cell
    have HBW : Hid (Below w.heap.size w ((w1.setCell ⟨w.heap.size + 1, 0, none⟩ (.slice none 0 0)).setCell ⟨w.heap.size + 1 + 1, 0, none⟩ (.bool false))) := Lib.hid ((HB3.out.trans (hb1.mono HB3.out.size)).trans (((But.setCell (X := (fun j => j = w.heap.size + 1 ∨ j = w.heap.size + 1 + 1)) w1 _ _ _ (fun _ => .inl rfl)).trans (But.setCell _ _ _ _ (fun _ => .inr rfl))).below (by have := HS3.out; have := hb1.size; omega) (fun j e => by omega)))
    clear r1 r2 r2' hb1
    gi_wp2
    refine bodyPost_ret (v := .tuple #[.slice none 0 0, .bool false]) (by simp [results, Tryd.results27, go_sem, e1, e2]) rfl ?_
    exact ⟨none, 0, rfl, World.ownsRow_nil _ _ _ _, HBW.out⟩
  · have HF := Lib.hid hf
    obtain ⟨m, rfl, hm1, hm6, hset, hl8⟩ := fam_nat2 hf
    have HZ : Hid (ordZ (m : Int) zs = nI ((firstO m zs).getD [])) := Lib.hid (by unfold ordZ; rw [hf]; rfl)
    have HO : Hid (ordB (m : Int) zs = (firstO m zs).isSome) := Lib.hid (by unfold ordB; rw [hf]; rfl)
    have HSET := Lib.hid hset
    clear hf hset
    rw [HZ.out, HO.out]
    refine (callsIn_wide (n := 6)).1 ?_
    refine callsIn_of_wp_marks Tryd.func27 rfl trivial ?_ rfl
    simp only [Tryd.ntmps27, List.size_toArray, List.length_cons, List.length_nil, Nat.reduceAdd, Nat.reduceSub, Array.replicate_succ, Array.replicate_zero, List.push_toArray, List.append_toArray, List.nil_append, List.cons_append]
    gi_wp2_with fail
    refine ⟨trivial, ?_⟩
    rw [HW3.out]
    refine (callsIn_wide.2 HFI.out).mono ?_
    rintro e w1 ⟨rfl, hb1⟩
    rw [HF.out]
    have q01 : HasBlk w1 w.heap.size #[.int .i64 (m : Int), .slice a zs.length c] 26 := (hb1.block _ (by have := HS3.out; omega)).trans HQ0.out
    have z0 := (blk_cell q01 0).trans (cell2_0 _ _)
    have HQ01 := Lib.hid q01
    have HB1 := Lib.hid hb1
    clear q01 hb1 y0 y1
    gi_wp2_with fail
    refine ⟨trivial, ?_⟩
    refine (callsIn_wide.2 (allNames_any _ _)).mono ?_
    rintro e w3 ⟨rfl, hw3⟩
    have hs1 : w.heap.size + 1 + 1 < w1.heap.size := by have := HB1.out.size; have := HS3.out; omega
    have hlo : Below w.heap.size w w3 := by rw [hw3]; exact ((HB3.out.trans (HB1.out.mono HB3.out.size)).alloc (by omega) _)
    have hs31 : w3.heap.size = w1.heap.size + 1 := by rw [hw3]; simp
    obtain ⟨bm, hbm⟩ : ∃ bm, bm = w1.heap.size := ⟨_, rfl⟩
    have bx : Boxed w3 bm 3 (.int .i64 (m : Int)) := by rw [hw3, hbm]; exact Boxed.new w1 3 _
    have hseq := allNames1_stop m (6 - 1) (fun j => j = w.heap.size + 1 ∨ j = w.heap.size + 1 + 1) hm1 hm6 (fun j e => by omega) bm w3 bx.lt bx.cell (HT.out.below hlo hT1)
    have hk3 : ∀ {k : Nat} {o : Obj}, k < w3.heap.size → k < w1.heap.size → w1.heap[k]? = some o → w3.heap[k]? = some o := fun {k o} _ h h' => by rw [hw3]; exact (alloc_old w1 _ _ h).trans h'
    have HSEQ := Lib.hid hseq
    have HLO := Lib.hid hlo
    have HQ3 : Hid (HasBlk w3 w.heap.size #[.int .i64 (m : Int), .slice a zs.length c] 26) := Lib.hid (hk3 (by omega) (by omega) HQ01.out)
    have HR1 : Hid (Boxed w3 (w.heap.size + 1) 22 (.slice none 0 0)) := Lib.hid (hk3 (by omega) (by omega) ((HB1.out.block _ (by have := HS3.out; omega)).trans HQ1.out))
    have HR2 : Hid (Boxed w3 (w.heap.size + 1 + 1) 4 (.bool false)) := Lib.hid (hk3 (by omega) (by omega) ((HB1.out.block _ (by have := HS3.out; omega)).trans HQ2.out))
    have HSZ : Hid (w.heap.size + 1 + 1 < w3.heap.size) := Lib.hid (by omega)
    rw [← hbm]
    clear hlo hseq bx hk3 hw3 hs31 hs1 hbm z0
    gi_wp2
    refine wpIn_rangeFunc_butB (n := 6) h16 (gf := 69) (lb := #[.pointer (some ⟨bm, 0, none⟩)]) rfl (enters_of Tryd.func69 (by kernel_rfl) rfl)
      HSEQ.out (Below.refl _ _) (fun j e => by have := HSZ.out; omega) (fun _ => rfl)
      (fun x A l' o h hl => ⟨h.1, by obtain ⟨a', c', e, hi⟩ := h.2; exact ⟨a', c', e, by have := ints_putObj (o := o) hi hl; simpa using this⟩⟩)
      (fun pre Wr => (∀ y ∈ pre, brkC zs (nI y.2) = true) ∧ Boxed Wr (w.heap.size + 1) 22 (.slice none 0 0) ∧ Boxed Wr (w.heap.size + 1 + 1) 4 (.bool false) ∧ But (fun j => j = w.heap.size + 1 ∨ j = w.heap.size + 1 + 1) w3 Wr)
      (fun pre Wr => ∃ pre0 x a' c', pre = pre0 ++ [x] ∧ (∀ y ∈ pre0, brkC zs (nI y.2) = true) ∧ brkC zs (nI x.2) = false ∧ x.2.length = m ∧ Boxed Wr (w.heap.size + 1) 22 (.slice a' m c') ∧ Boxed Wr (w.heap.size + 1 + 1) 4 (.bool true) ∧ OwnN Wr w.heap.size a' m c' (nI x.2) ∧ Below w.heap.size w Wr)
      ?own ?ownx ⟨fun y h => by simp at h, HR1.out, HR2.out, But.refl _ _⟩
      (fun x a' _ => a' = { tmps := #[.agg #[.int .i64 (m : Int), .slice a zs.length c], .pointer (some ⟨w.heap.size, 0, none⟩), .pointer (some ⟨w.heap.size + 1, 0, none⟩), .pointer (some ⟨w.heap.size + 1 + 1, 0, none⟩), x.1, .agg #[.int .i64 (m : Int), .slice a zs.length c], .bool true, .bool false, .pointer (some ⟨w.heap.size, 0, none⟩), .int .i64 (m : Int), .func (.func 69) #[] #[.pointer (some ⟨bm, 0, none⟩)], x.1, undef, undef, undef, undef, undef], defers := [] })
      (fun _ _ _ _ _ h _ => h) ?assign ?body ?done ?stop
    case own =>
      rintro s A C row ⟨h0, h1, h2, hb⟩ hg hr
      have hs3 := HSZ.out
      refine ⟨h0, HasBlk.kept h1 hg (fun e => by have := hr _ e; omega), HasBlk.kept h2 hg (fun e => by have := hr _ e; omega), ?_⟩
      exact ⟨hg.os.trans hb.os, hg.tape.trans hb.tape, hg.output.trans hb.output, Nat.le_trans hb.size hg.size, fun i hi hX => (hg.block i (Nat.lt_of_lt_of_le hi hb.size) (fun e => by have := hr i e.symm; omega)).trans (hb.same i hi hX)⟩
    case ownx =>
      rintro s A C row ⟨pre0, x, a', c', h0, hp0, hxb, hxl, h1, h2, h3, hb⟩ hg hr
      have hs3 := HSZ.out
      refine ⟨pre0, x, a', c', h0, hp0, hxb, hxl, HasBlk.kept h1 hg (fun e => by have := (hr _ e).1; omega), HasBlk.kept h2 hg (fun e => by have := (hr _ e).1; omega), h3.kept hg ?_, hb.grown hg hb.size (fun r e => by have := (hr r e).1; omega)⟩
      rcases h3.2 with ⟨e0, _⟩ | ⟨g, cap, cur, e0, _, hgb, _⟩
      · left; injection e0 with e1 e2 e3; subst e1; subst e3; rw [e2]; rfl
      · refine .inr fun e' => ?_
        obtain ⟨-, o, ho, hc⟩ := hr g (by rw [e0] at e'; simpa [Value.ownBlock] using e'.symm)
        rw [hgb] at ho; cases ho
        rcases hc with hc | ⟨v, hv⟩
        · cases hc
        · injection hv with _ hv _; cases hv
    case assign =>
      rintro l1 pre ⟨x1, x2⟩ Wr K hI ⟨⟨hlen, hlt2⟩, a', c', ha', hints⟩ hsz hK
      dsimp only at ha' hlen hlt2 hints
      subst ha'
      have HL := Lib.hid hlen
      clear hlen
      gi_wp2
      exact hK _ _ (But.refl _ _) hI ⟨⟨HL.out, hlt2⟩, _, _, rfl, hints⟩ rfl
    case body =>
      rintro l1 pre ⟨x1, x2⟩ a2 Wr hl1' ⟨h0, h1, h2, hb⟩ ⟨⟨hlen, hlt2⟩, a', c', ha', hints⟩ rfl hlt
      dsimp only at ha' hlen hlt2 hints
      rw [hlen] at ha'
      subst ha'
      obtain ⟨g, o, rfl⟩ : ∃ g o, a' = some ⟨g, o, none⟩ := by
        rcases hints with h | ⟨b, o, e, _⟩
        · have := congrArg List.length h; rw [nI_len, hlen] at this; simp at this; omega
        · exact ⟨b, o, e⟩
      have hnl : (nI x2).length = m := by rw [nI_len, hlen]
      have hsz3 := HSZ.out
      have hszW : w3.heap.size ≤ Wr.heap.size := hb.size
      have qf : HasBlk Wr w.heap.size #[.int .i64 (m : Int), .slice a zs.length c] 26 := hb.keep (by omega) HQ3.out
      have v0 := (blk_cell qf 0).trans (cell2_0 _ _)
      have v1 := (blk_cell qf 1).trans (cell2_1 _ _)
      have hbl : Below w.heap.size w Wr := HLO.out.trans (hb.below HLO.out.size (fun j e => by omega))
      have hev := evenIn_any m hm6 (m : Int) a c zs (some ⟨g, o, none⟩) c' (nI x2) (nI_in6 hm6 hlt2) (by omega) Wr ((HA.out.below hbl).mono hbl.size) hints hx HSET.out
      rw [hnl] at hev
      have hcl : ∀ W4, Below Wr.heap.size Wr W4 → Calls Tryd.prog 52 #[.slice (some ⟨g, o, none⟩) m c'] W4 fun e w' => ∃ a' c'', e = .returned (.slice a' m c'') ∧ OwnN w' W4.heap.size a' m c'' (nI x2) ∧ Below W4.heap.size W4 w' := fun W4 h4 => clone_any g o c' m (nI x2) hnl (by omega) W4 ((hints.below h4).mono h4.size)
      have HEV := Lib.hid hev
      have HCL := Lib.hid hcl
      have HL := Lib.hid hlen
      have H0 := Lib.hid h0
      have H1 := Lib.hid h1
      have H2 := Lib.hid h2
      have HB := Lib.hid hb
      obtain ⟨bk, hbk⟩ : ∃ bk, bk = brkC zs (nI x2) := ⟨_, rfl⟩
      have HBK := Lib.hid hbk
      rw [← hbk] at HEV
      clear hcl hev hlen hlt2 h0 h1 h2 hb hints hbk hnl qf hbl
      dsimp only
      gi_wp2_with fail
      refine ⟨trivial, ?_⟩
      refine (CallsIn.inRound l1 (callsIn_wide.2 HEV.out)).mono ?_
      rintro e w5 ⟨rfl, hb5⟩
      cases bk
      · have HB5 := Lib.hid hb5
        have HCL5 := Lib.hid (HCL.out w5 hb5)
        clear hb5
        gi_wp2_with fail
        refine ⟨trivial, ?_⟩
        refine (CallsIn.inRound l1 (callsIn_wide.2 HCL5.out)).mono ?_
        rintro e w4 ⟨a4, c4, rfl, ho4, hb4⟩
        have hb54 : Below Wr.heap.size Wr w4 := HB5.out.trans (hb4.mono HB5.out.size)
        have hs5 := HB5.out.size
        have r1 : Boxed w4 (w.heap.size + 1) 22 (.slice none 0 0) := (hb54.block _ H1.out.lt).trans H1.out
        have r2 : Boxed w4 (w.heap.size + 1 + 1) 4 (.bool false) := (hb54.block _ H2.out.lt).trans H2.out
        have c1 := r1.cell
        have f1 := r1.frozen
        have r2' : Boxed (w4.setCell ⟨w.heap.size + 1, 0, none⟩ (.slice a4 m c4)) (w.heap.size + 1 + 1) 4 (.bool false) := Boxed.other r2 (by omega) _
        have c2 := r2'.cell
        have f2 := r2'.frozen
        have ho5 : OwnN ((w4.setCell ⟨w.heap.size + 1, 0, none⟩ (.slice a4 m c4)).setCell ⟨w.heap.size + 1 + 1, 0, none⟩ (.bool true)) w5.heap.size a4 m c4 (nI x2) :=
          ownsRow_setCell_ne (p := ⟨w.heap.size + 1 + 1, 0, none⟩) (ownsRow_setCell_ne (p := ⟨w.heap.size + 1, 0, none⟩) ho4 (ho4.ne (.inl (show w.heap.size + 1 < w5.heap.size by omega))) _) (ho4.ne (.inl (show w.heap.size + 1 + 1 < w5.heap.size by omega))) _
        have hbt : But (fun j => j = w.heap.size + 1 ∨ j = w.heap.size + 1 + 1) Wr ((w4.setCell ⟨w.heap.size + 1, 0, none⟩ (.slice a4 m c4)).setCell ⟨w.heap.size + 1 + 1, 0, none⟩ (.bool true)) := ((But.of_below hb54).trans (But.setCell _ _ _ _ (fun _ => .inl rfl))).trans (But.setCell _ _ _ _ (fun _ => .inr rfl))
        have HBT := Lib.hid hbt
        have HO5 := Lib.hid ho5
        have HE1 : Hid (Boxed ((w4.setCell ⟨w.heap.size + 1, 0, none⟩ (.slice a4 m c4)).setCell ⟨w.heap.size + 1 + 1, 0, none⟩ (.bool true)) (w.heap.size + 1) 22 (.slice a4 m c4)) := Lib.hid (Boxed.other (r1.set _) (by omega) _)
        have HE2 : Hid (Boxed ((w4.setCell ⟨w.heap.size + 1, 0, none⟩ (.slice a4 m c4)).setCell ⟨w.heap.size + 1 + 1, 0, none⟩ (.bool true)) (w.heap.size + 1 + 1) 4 (.bool true)) := Lib.hid (r2'.set _)
        clear r1 r2 r2' ho4 hb4 ho5 hbt hb54
        gi_wp2
        have hbw : Below w.heap.size w ((w4.setCell ⟨w.heap.size + 1, 0, none⟩ (.slice a4 m c4)).setCell ⟨w.heap.size + 1 + 1, 0, none⟩ (.bool true)) := HLO.out.trans ((HB.out.trans HBT.out).below HLO.out.size (fun j e => by omega))
        exact ⟨HBT.out, pre, (.slice (some ⟨g, o, none⟩) m c', x2), a4, c4, rfl, H0.out, HBK.out.symm, HL.out, HE1.out, HE2.out, HO5.out.base (by omega), hbw⟩
      · have r1 : Boxed w5 (w.heap.size + 1) 22 (.slice none 0 0) := (hb5.block _ H1.out.lt).trans H1.out
        have r2 : Boxed w5 (w.heap.size + 1 + 1) 4 (.bool false) := (hb5.block _ H2.out.lt).trans H2.out
        have HE1 := Lib.hid r1
        have HE2 := Lib.hid r2
        have HB5 := Lib.hid hb5
        clear r1 r2 hb5
        gi_wp2
        refine ⟨But.of_below HB5.out, fun y hy => ?_, HE1.out, HE2.out, HB.out.trans (But.of_below HB5.out)⟩
        rcases List.mem_append.1 hy with h | h
        · exact H0.out y h
        · rw [List.mem_singleton.1 h]; exact HBK.out.symm
    case done =>
      rintro E xs Wr hE hS ⟨h0, h1, h2, hb⟩ hK
      have HFN := Lib.hid (firstO_none hS h0)
      have hsz3 := HSZ.out
      have hb1 : But (fun j => j = w.heap.size + 1 ∨ j = w.heap.size + 1 + 1) Wr ((Wr.setCell ⟨w.heap.size + 1, 0, none⟩ (.slice none 0 0)).setCell ⟨w.heap.size + 1 + 1, 0, none⟩ (.bool false)) := (But.setCell _ _ _ _ (fun _ => .inl rfl)).trans (But.setCell _ _ _ _ (fun _ => .inr rfl))
      have hK5 := hb1.keep (k := E) (by omega) hK
      have c1 := h1.cell
      have f1 := h1.frozen
      have h2' : Boxed (Wr.setCell ⟨w.heap.size + 1, 0, none⟩ (.slice none 0 0)) (w.heap.size + 1 + 1) 4 (.bool false) := Boxed.other h2 (by omega) _
      have c2 := h2'.cell
      have f2 := h2'.frozen
      have e1 : HasBlk (((Wr.setCell ⟨w.heap.size + 1, 0, none⟩ (.slice none 0 0)).setCell ⟨w.heap.size + 1 + 1, 0, none⟩ (.bool false)).putObj E (.deferred none)) (w.heap.size + 1) #[.slice none 0 0] 22 := (World.putObj_heap_other (by omega)).trans (Boxed.other (h1.set _) (by omega) _)
      have e2 : HasBlk (((Wr.setCell ⟨w.heap.size + 1, 0, none⟩ (.slice none 0 0)).setCell ⟨w.heap.size + 1 + 1, 0, none⟩ (.bool false)).putObj E (.deferred none)) (w.heap.size + 1 + 1) #[.bool false] 4 := (World.putObj_heap_other (by omega)).trans (h2'.set _)
      have g1 := (blk_cell e1 0).trans (cell1_0 _)
      have g2 := (blk_cell e2 0).trans (cell1_0 _)
      have HBW : Hid (Below w.heap.size w ((Wr.setCell ⟨w.heap.size + 1, 0, none⟩ (.slice none 0 0)).setCell ⟨w.heap.size + 1 + 1, 0, none⟩ (.bool false))) := Lib.hid (HLO.out.trans ((hb.trans hb1).below HLO.out.size (fun j e => by omega)))
      have HK5 := Lib.hid hK5
      clear h1 h2 h2' hb hb1 hK hK5 e1 e2 hS h0
      gi_wp2
      refine ⟨by simp, .inl ⟨_, _, rfl, run_takeDeferred HK5.out, ?_⟩⟩
      refine ⟨.tuple #[.slice none 0 0, .bool false], by simp [results, Tryd.results27, go_sem, g1, g2], none, 0, by rw [HFN.out]; rfl, by rw [HFN.out]; exact World.ownsRow_nil _ _ _ _, ?_⟩
      exact HBW.out.grown (grownBy_putObj' _ E _) HBW.out.size (fun g e => by injection e; omega)
    case stop =>
      rintro E pre Wr hE ⟨hS, -⟩ ⟨pre0, x, a', c', h0, hp0, hxb, hxl, h1, h2, h3, hb⟩ hK
      rw [h0] at hS
      have hF : firstO m zs = some x.2 := firstO_some hS hp0 hxb
      rw [hF, Option.getD_some, Option.isSome_some]
      have hsz3 := HSZ.out
      have e1 : HasBlk (Wr.putObj E (.deferred none)) (w.heap.size + 1) #[.slice a' m c'] 22 := (World.putObj_heap_other (by omega)).trans h1
      have e2 : HasBlk (Wr.putObj E (.deferred none)) (w.heap.size + 1 + 1) #[.bool true] 4 := (World.putObj_heap_other (by omega)).trans h2
      have g1 := (blk_cell e1 0).trans (cell1_0 _)
      have g2 := (blk_cell e2 0).trans (cell1_0 _)
      have HO' : Hid (OwnN (Wr.putObj E (.deferred none)) w.heap.size a' m c' (nI x.2)) := Lib.hid (ownsRow_putObj h3 _ hK rfl)
      have HBW := Lib.hid hb
      have HK5 := Lib.hid hK
      have HXL : Hid ((nI x.2).length = m) := Lib.hid (by rw [nI_len, hxl])
      clear h1 h2 h3 hb hK e1 e2 hS h0 hF hxl hp0 hxb
      gi_wp2
      refine ⟨by simp, .inl ⟨_, _, rfl, run_takeDeferred HK5.out, ?_⟩⟩
      refine ⟨.tuple #[.slice a' m c', .bool true], by simp [results, Tryd.results27, go_sem, g1, g2], a', c', by rw [HXL.out], by unfold OwnI; rw [HXL.out]; exact HO'.out, ?_⟩
      exact HBW.out.grown (grownBy_putObj' _ E _) HBW.out.size (fun g e => by injection e; omega)

end Go.Proofs.YtgjcjllhkkkioaaDoor

/- It is proved that l2Perms lists all names in order; conditions: those of each statement. -/
namespace Go.Proofs.YtgjcjllhkkkioaaDoor
open Go.RowKit Go.Shelf

def stepL (n : Nat) (l : List Nat) (v : Nat) : List (List Nat) := ((List.range v).filter fun u => !l.contains u).map fun u => l ++ [u]
theorem stepL_all (n : Nat) (L : List (List Nat)) : L.flatMap (fun l => stepL n l n) = nextL n L := rfl
theorem stepL_len (n : Nat) (l : List Nat) (v : Nat) : (stepL n l v).length ≤ v := by
  unfold stepL; rw [List.length_map]; exact Nat.le_trans (List.length_filter_le _ _) (by simp)

theorem stepL_in {n : Nat} {l : List Nat} {v : Nat} (h : l.contains v = true) : stepL n l (v + 1) = stepL n l v := by
  simp [stepL, List.range_succ, List.filter_append, h]
  simpa using h

theorem stepL_out {n : Nat} {l : List Nat} {v : Nat} (h : l.contains v = false) : stepL n l (v + 1) = stepL n l v ++ [l ++ [v]] := by
  have h' : v ∉ l := by simpa using h
  simp [stepL, List.range_succ, List.filter_append, h']

set_option maxRecDepth 100000 in
set_option maxHeartbeats 8000000 in
theorem perms_any (n : Nat) (hn : n ≤ 6) (w : World) :
    Calls Tryd.prog 48 #[.int .i64 (n : Int)] w fun e w' => ∃ v, e = .returned v ∧ Rws w' w.heap.size v ((lvlL n n).map nI) ∧ Below w.heap.size w w' := by
  have hb2 := below2 w (.cells #[] 3) (.cells #[.slice (some ⟨w.heap.size, 0, none⟩) 0 0] 22)
  have q0 := alloc2_0 w (.cells #[] 3) (.cells #[.slice (some ⟨w.heap.size, 0, none⟩) 0 0] 22)
  have q1 := alloc2_1 w (.cells #[] 3) (.cells #[.slice (some ⟨w.heap.size, 0, none⟩) 0 0] 22)
  have hR0 : Rws ((w.alloc (.cells #[] 3)).alloc (.cells #[.slice (some ⟨w.heap.size, 0, none⟩) 0 0] 22)) w.heap.size (.slice (some ⟨w.heap.size + 1, 0, none⟩) 1 1) ((lvlL n 0).map nI) :=
    ⟨[.slice (some ⟨w.heap.size, 0, none⟩) 0 0], ⟨by simp [lvlL], .inr ⟨w.heap.size + 1, 1, _, rfl, by omega, q1, Nat.le_refl _, by simp [maxLen], by simp, by simp [lvlL]⟩⟩, fun i hi => by
      have hi0 : i = 0 := by simpa [lvlL] using hi
      subst hi0
      exact ⟨some ⟨w.heap.size, 0, none⟩, 0, rfl, own_empty q0 (Nat.le_refl _)⟩⟩
  have HR0 := Lib.hid hR0
  have HB0 := Lib.hid hb2
  clear hb2 q0 q1 hR0
  go_enter Tryd.func48, Tryd.ntmps48
  go_wp2
  go_loopw [3, 4] (fun o i wr => ∃ (k : Nat) (v : Value), k ≤ n ∧ i = .int .i64 (k : Int) ∧ o = v ∧ Rws wr w.heap.size v ((lvlL n k).map nI) ∧ Below w.heap.size w wr) (fun _ i _ => n - (intOf i).toNat)
  case atStart => exact ⟨0, _, Nat.zero_le _, rfl, rfl, HR0.out, HB0.out⟩
  case round =>
    obtain ⟨i, ov, hi, rfl, rfl, hR, hB⟩ := hrel
    by_cases hlt : i < n
    · obtain ⟨wo, hwo⟩ : ∃ wo, wo = wr := ⟨wr, rfl⟩
      subst hwo
      obtain ⟨oa, oc, rfl⟩ := hR.form
      obtain ⟨N, hN⟩ : ∃ N, N = (lvlL n i).length := ⟨_, rfl⟩
      have hNs : N ≤ 7776 := by
        rw [hN]
        exact Nat.le_trans (lvlL_len n i) (Nat.le_trans (Nat.pow_le_pow_left hn i) (Nat.le_trans (Nat.pow_le_pow_right (by decide) (by omega : i ≤ 5)) (by decide)))
      have HN := Lib.hid hN
      have HR := Lib.hid hR
      have HB := Lib.hid hB
      have HN0 : Hid (Rws (wo.alloc (.cells #[] 22)) wo.heap.size (.slice (some ⟨wo.heap.size, 0, none⟩) 0 0) ((((lvlL n i).take 0).flatMap fun l => stepL n l n).map nI)) := Lib.hid (rws_nil _ _ (alloc_new wo _) (Nat.le_refl _))
      have HNB := Lib.hid (below1 wo (.cells #[] 22))
      rw [List.length_map, ← hN]
      clear hN hR hB
      go_wp2
      go_loopw [5, 6] (fun nx kk wr => ∃ (k : Nat) (nv : Value), k ≤ N ∧ kk = .int .i64 (k : Int) ∧ nv = nx ∧ Rws wr wo.heap.size nv ((((lvlL n i).take k).flatMap fun l => stepL n l n).map nI) ∧ Below wo.heap.size wo wr) (fun _ kk _ => N - (intOf kk).toNat)
      case atStart => exact ⟨0, _, Nat.zero_le _, rfl, rfl, HN0.out, HNB.out⟩
      case round =>
        obtain ⟨k, nv, hk, rfl, rfl, hNx, hB2⟩ := hrel
        by_cases hkl : k < N
        · obtain ⟨w2, hw2⟩ : ∃ w2, w2 = wr := ⟨wr, rfl⟩
          subst hw2
          have hkl' : k < (lvlL n i).length := by have := HN.out; omega
          obtain ⟨l, hl⟩ : ∃ l, l = (lvlL n i)[k] := ⟨_, rfl⟩
          have hll : l.length = i := lvlL_in (by rw [hl]; exact List.getElem_mem hkl')
          have HTK : Hid ((lvlL n i).take (k + 1) = (lvlL n i).take k ++ [l]) := Lib.hid (by rw [hl]; exact List.take_succ_eq_append_getElem hkl')
          have HPL : Hid ((((lvlL n i).take k).flatMap fun l => stepL n l n).length ≤ k * 6) := Lib.hid (by
            refine Nat.le_trans (flat_len _ 6 _ (fun l _ => Nat.le_trans (stepL_len n l n) hn)) (Nat.mul_le_mul_right _ ?_)
            rw [List.length_take]; omega)
          have HNX : Hid (Rws w2 wo.heap.size nv (((((lvlL n i).take k).flatMap fun l => stepL n l n) ++ stepL n l 0).map nI)) := Lib.hid (by simpa [stepL] using hNx)
          have HB2 := Lib.hid hB2
          have HRW : Hid (∀ wz, Below wo.heap.size wo wz → ∃ g a' c', oa = some ⟨g, 0, none⟩ ∧ wz.cell? ⟨g, k, none⟩ = some (.slice a' i c') ∧ OwnN wz w.heap.size a' i c' (nI l)) := Lib.hid (fun wz hz => by
            obtain ⟨g, a', c', e, hc, ho⟩ := (HR.out.below hz).at_ (i := k) (by rw [List.length_map]; exact hkl')
            have e2 : ((lvlL n i).map nI)[k]?.getD [] = nI l := by rw [List.getElem?_map, List.getElem?_eq_getElem hkl', ← hl]; rfl
            rw [e2, nI_len, hll] at hc ho
            exact ⟨g, a', c', e, hc, ho⟩)
          have hkN : (k : Int) < (N : Int) := by omega
          have HLL := Lib.hid hll
          clear hl hll hNx hB2 hkl'
          go_wp2
          go_loopw [5, 7] (fun nx vv wr => ∃ (v : Nat) (nv : Value), v ≤ n ∧ vv = .int .i64 (v : Int) ∧ nv = nx ∧ Rws wr wo.heap.size nv (((((lvlL n i).take k).flatMap fun l => stepL n l n) ++ stepL n l v).map nI) ∧ Below wo.heap.size wo wr) (fun _ vv _ => n - (intOf vv).toNat)
          case atStart => exact ⟨0, nv, Nat.zero_le _, rfl, rfl, HNX.out, HB2.out⟩
          case round =>
            obtain ⟨v, nv, hv, rfl, rfl, hNx, hB3⟩ := hrel
            by_cases hvn : v < n
            · obtain ⟨w3, hw3⟩ : ∃ w3, w3 = wr := ⟨wr, rfl⟩
              subst hw3
              obtain ⟨g, a', c', rfl, hcr, hor⟩ := HRW.out w3 hB3
              have HNX := Lib.hid hNx
              have HB3 := Lib.hid hB3
              have HOR := Lib.hid hor
              have hk0 : (0 : Int) ≤ (k : Int) := by omega
              clear hNx hB3 hor
              go_wp2
              go_loop [8, 9] (fun b j => ∃ jj : Nat, jj ≤ i ∧ j = .int .i64 (jj : Int) ∧ b = .bool ((l.take jj).contains v)) (fun _ j => i - (intOf j).toNat)
              case atStart => exact ⟨0, Nat.zero_le _, rfl, by simp⟩
              case round =>
                obtain ⟨j, hj, rfl, rfl⟩ := hrel
                by_cases hji : j < i
                · obtain ⟨b1, rfl, -, -⟩ := HOR.out.addr (by omega)
                  have hjl : j < l.length := by have := HLL.out; omega
                  have c1 := HOR.out.cell (j := j) hji
                  obtain ⟨u, hu⟩ : ∃ u, u = l[j] := ⟨_, rfl⟩
                  rw [show (nI l)[j]?.getD 0 = (u : Int) from by simp [nI, hjl, hu]] at c1
                  have HT : Hid ((l.take (j + 1)).contains v = ((l.take j).contains v || decide (u = v))) := Lib.hid (by
                    rw [List.take_succ_eq_append_getElem hjl, ← hu, Bool.eq_iff_iff, Bool.or_eq_true, decide_eq_true_eq, List.contains_iff_mem, List.contains_iff_mem, List.mem_append, List.mem_singleton]
                    exact or_congr Iff.rfl eq_comm)
                  have hjI : (j : Int) < (i : Int) := by omega
                  have hj0 : (0 : Int) ≤ (j : Int) := by omega
                  obtain ⟨cb, hcb⟩ : ∃ cb, cb = (l.take j).contains v := ⟨_, rfl⟩
                  rw [← hcb]
                  rw [← hcb] at HT
                  clear hcb hu
                  cases cb
                  · by_cases huv : u = v
                    · subst huv
                      go_wp2
                      go_round
                      case rel => exact ⟨j + 1, by omega, by go_num, by rw [HT.out]; simp⟩
                      case measure => simp [intOf]; omega
                    · have hne : ((u : Int) == (v : Int)) = false := by simp; omega
                      go_wp2
                      go_round
                      case rel => exact ⟨j + 1, by omega, by go_num, by rw [HT.out]; simp [huv]⟩
                      case measure => simp [intOf]; omega
                  · go_wp2
                    go_round
                    case rel => exact ⟨j + 1, by omega, by go_num, by rw [HT.out]; rfl⟩
                    case measure => simp [intOf]; omega
                · obtain rfl : j = i := by omega
                  rw [List.take_of_length_le (by rw [HLL.out]; exact Nat.le_refl _)]
                  obtain ⟨cb, hcb⟩ : ∃ cb, cb = l.contains v := ⟨_, rfl⟩
                  rw [← hcb]
                  have HCB := Lib.hid hcb
                  clear hcb
                  cases cb
                  · have hPl : (((((lvlL n j).take k).flatMap fun l => stepL n l n) ++ stepL n l v).map nI).length ≤ 100000 := by
                      rw [List.length_map, List.length_append]
                      have h1 := HPL.out
                      have h2 := stepL_len n l v
                      omega
                    obtain ⟨a3, c3, w3a, a4, c4, w4, a5, c5, w5, hr3, hr4, hr5, hRf, hBf⟩ := ext_row HNX.out HB3.out.size hPl a' c' j (nI l) (by rw [nI_len, HLL.out]) (by omega) (show Ints w3 w3.heap.size a' (nI l) from own_ints (show OwnI w3 w.heap.size (.slice a' (nI l).length c') (nI l) from by rw [nI_len, HLL.out]; unfold OwnI; rw [nI_len, HLL.out]; exact HOR.out)) (v : Int)
                    have HFIN : Hid (Rws w5 wo.heap.size (.slice a5 ((((((lvlL n j).take k).flatMap fun l => stepL n l n) ++ stepL n l v).map nI).length + 1) c5) (((((lvlL n j).take k).flatMap fun l => stepL n l n) ++ stepL n l (v + 1)).map nI)) := Lib.hid (by
                      rw [stepL_out HCB.out.symm, ← List.append_assoc, List.map_append (l₂ := [l ++ [v]]), show [l ++ [v]].map nI = [nI l ++ [(v : Int)]] from by simp [nI_snoc]]
                      exact hRf)
                    have HBF := Lib.hid hBf
                    obtain ⟨T, hT⟩ : ∃ T, T = (((((lvlL n j).take k).flatMap fun l => stepL n l n) ++ stepL n l v).map nI).length + 1 := ⟨_, rfl⟩
                    rw [← hT] at hr5 HFIN
                    have hcr2 := (World.cell?_alloc_lt w3 (.cells #[] 3) ⟨g, k, none⟩ (lt_of_cell hcr)).trans hcr
                    clear hRf hBf hPl hT
                    go_wp2_with (at_builtin; first | refine wpList_append_eq _ rfl _ _ 22 22 rfl _ _ rfl rfl hr3 ?_ | refine wpList_append_eq _ rfl _ _ 22 22 rfl _ _ rfl rfl hr4 ?_ | refine wpList_append_eq _ rfl _ _ 50 50 rfl _ _ rfl rfl hr5 ?_)
                    go_roundw
                    case rel => exact ⟨v + 1, _, by omega, by go_num, rfl, HFIN.out, HB3.out.trans HBF.out⟩
                    case measure => simp [intOf]; omega
                  · go_wp2
                    go_roundw
                    case rel => exact ⟨v + 1, nv, by omega, by go_num, rfl, by rw [stepL_in HCB.out.symm]; exact HNX.out, HB3.out⟩
                    case measure => simp [intOf]; omega
            · obtain rfl : v = n := by omega
              go_wp2
              go_roundw
              case rel => exact ⟨k + 1, nv, by omega, by go_num, rfl, by rw [HTK.out, List.flatMap_append]; simpa using hNx, hB3⟩
              case measure => simp [intOf]; omega
        · obtain rfl : k = N := by omega
          rw [List.take_of_length_le (by rw [← HN.out]; exact Nat.le_refl _), stepL_all] at hNx
          go_wp2
          go_roundw
          case rel => exact ⟨i + 1, nv, by omega, by go_num, rfl, hNx.base HB.out.size, HB.out.trans (hB2.mono HB.out.size)⟩
          case measure => simp [intOf]; omega
    · obtain rfl : i = n := by omega
      go_wp2
      go_ret
      exact ⟨_, rfl, hR, hB⟩

end Go.Proofs.YtgjcjllhkkkioaaDoor
