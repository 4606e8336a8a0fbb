/- It is proved what MeetStars of the program and of the model return; conditions: those of each statement. -/
import Derived.RowKit
import Derived.Laws.CopyRow
import Derived.Lib.SlBuf
import Derived.Deep.QuietTactic
import Derived.RangeFuncNested
import Derived.RangeFuncBound
import Derived.RangeFuncCalls
import Derived.RangeFuncLeaves
import Derived.RangeFuncBox
import Derived.RangeFuncWrites
import Derived.StillTailTactics
import Derived.Maps.OwnIn
import Derived.Maps.Ext
import Derived.DeepKeys4
import Derived.MapKept
import Derived.Test.YtgpgocijacgkhaaDoorRows
import Derived.WalkKit
import Derived.WalkSpells
import Derived.ProofKit
import Derived.OpenShut
import Derived.ShutString
import Derived.ChangeOld
import Derived.Below
import Derived.Deep.RegionHeld3
import Derived.BigQuiet
import Derived.Lib.Hide
import Derived.Lib.SmallJoins
import Derived.Outline
import Derived.Laws.MakeOwn
import Derived.Laws.OwnMore
import Derived.IntWalk
import Derived.Maps.AppendAt
import Derived.Sort.MapsRangeIn
import Derived.Deep.RegionLaw
import Derived.Deep.AppendLies
import Derived.Deep.RegionWith
import Derived.Lib.AppendZeros
import Derived.OwnWalk
import Derived.Lib.SlicesCompact
import Derived.Lib.OwnBridge
import Derived.OrdersIn
import Derived.TacticsIn
import Derived.Shelf.Sort.Plain
import Derived.Shelf.Slices.In.SortNone
import Derived.Shelf.Slices.CompactI
import Derived.Ground.Names2Prog
import Derived.Lib.SliceRun
import Derived.Shelf.RegionOpen
import Derived.Shelf.Abstract
import Derived.OwnWalkIn
import Derived.TacticsInMore
import Derived.LoopNIn
import Derived.LoopIn
import Derived.StillTail
import Derived.StillTactics
import Derived.Shelf.Spec.TrailingZeros
import Derived.Deep.LoopGhost
import Derived.Test.YtgpgocijacgkhaaDoorRaaa
import Derived.Test.YtgpgocijacgkhaaDoorRaab
import Derived.Test.YtgpgocijacgkhaaDoorRaah
import Derived.Test.YtgpgocijacgkhaaDoorRaai
import Derived.Test.YtgpgocijacgkhaaDoorRaac
import Derived.Test.YtgpgocijacgkhaaDoorTb
import Derived.Test.YtgpgocijacgkhaaDoorTc
import Derived.Test.YtgpgocijacgkhaaDoorTd
namespace Go.Proofs.YtgpgocijacgkhaaDoor
open Go.RowKit Go.Shelf

def starZ (m : Int) (zs : List Int) : Int := mostI (famDeg m zs) (famDeg m zs).length
theorem famDeg_nn {m : Int} {zs : List Int} : ∀ y ∈ famDeg m zs, 0 ≤ y := fun y hy => by
  unfold famDeg at hy
  split at hy
  · unfold degL at hy
    obtain ⟨v, _, rfl⟩ := List.mem_map.1 hy
    omega
  · simp at hy

theorem maxR_most {zs : List Int} {M : Int} (h : MaxR zs zs.length M) (hn : ∀ y ∈ zs, 0 ≤ y) : M = mostI zs zs.length := by
  obtain ⟨h1, j, hj, h2⟩ := h
  have hjm : zs[j]?.getD 0 ∈ zs := by rw [List.getElem?_eq_getElem hj, Option.getD_some]; exact List.getElem_mem hj
  have a1 : M ≤ mostI zs zs.length := by rw [← h2]; exact mostI_all _ hjm
  have a2 : mostI zs zs.length ≤ M := mostI_le (by rw [← h2]; exact hn _ hjm) (fun y hy => by
    obtain ⟨i, hi, rfl⟩ := List.mem_iff_getElem.1 hy
    have := h1 i hi
    rwa [List.getElem?_eq_getElem hi, Option.getD_some] at this) _
  omega

theorem famDeg_len1 {m : Int} {zs : List Int} (h : famIn m zs = true) : (famDeg m zs).length = m.toNat := by
  unfold famDeg; rw [h]; exact degL_length _ _

set_option maxRecDepth 100000 in
set_option maxHeartbeats 2000000 in
theorem implStars_any (m : Int) (a : Option Addr) (c : Nat) (zs : List Int) (w : World) (ha : Ints w w.heap.size a zs) (hT : Tab w) (hx : zs.length ≤ 1048576) :
    Calls Tryd.prog 35 #[.agg #[.int .i64 m, .slice a zs.length c]] w (RetIB w (starZ m zs) (famIn m zs)) := by
  have F1 := FB.start (m := m) (c := c) ha
  have HB0 := Lib.hid (below1 w (.cells #[.int .i64 m, .slice a zs.length c] 25))
  have HD := Lib.hid (implDegrees_any m a c zs _ F1.ints (hT.step HB0.out) hx)
  have f_0 := F1.x0
  have f_1 := F1.x1
  clear F1 ha hT
  cases hf : famIn m zs
  · have HR : Hid (starZ m zs = 0) := Lib.hid (by unfold starZ famDeg; rw [hf]; rfl)
    have HF := Lib.hid hf
    clear hf
    go_enter Tryd.func35, Tryd.ntmps35
    go_wp2_with fail
    refine HD.out.mono ?_
    rintro e w2 ⟨a2, c2, rfl, -, hb2⟩
    rw [HF.out]
    have HB2 := Lib.hid (HB0.out.trans (hb2.mono (by simp)))
    clear hb2 f_0 f_1
    go_wp2
    go_ret2
    exact ⟨by rw [HR.out]; rfl, HB2.out⟩
  · have HF := Lib.hid hf
    obtain ⟨hm1, hm6, -, -⟩ := famIn_out hf
    have hL := famDeg_len1 hf
    obtain ⟨L, hLL⟩ : ∃ L, L = (famDeg m zs).length := ⟨_, rfl⟩
    have HL := Lib.hid hLL
    have hL1 : 1 ≤ (famDeg m zs).length := by omega
    have hL2 : (famDeg m zs).length ≤ 1048576 := by omega
    clear hf hL
    go_enter Tryd.func35, Tryd.ntmps35
    go_wp2_with fail
    refine HD.out.mono ?_
    rintro e w2 ⟨a2, c2, rfl, ho2, hb2⟩
    rw [HF.out]
    have HB2 := Lib.hid (HB0.out.trans (hb2.mono (by simp)))
    have HM := Lib.hid (maxI_any a2 c2 (famDeg m zs) w2 (own_ints ho2) hL1 hL2)
    rw [← HL.out] at HM ⊢
    clear hb2 f_0 f_1 ho2 hLL hL1 hL2
    go_wp2_with fail
    refine HM.out.mono ?_
    rintro e w3 ⟨⟨M, rfl, hM⟩, rfl⟩
    have HMM : Hid (M = starZ m zs) := Lib.hid (by rw [HL.out] at hM; exact maxR_most hM famDeg_nn)
    clear hM
    go_wp2
    go_ret2
    exact ⟨by rw [← HMM.out]; rfl, HB2.out⟩

set_option maxRecDepth 100000 in
set_option maxHeartbeats 2000000 in
theorem specStars_any (m : Int) (a : Option Addr) (c : Nat) (zs : List Int) (w : World) (ha : Ints w w.heap.size a zs) (hx : zs.length ≤ 1048576) :
    Calls Tryd.prog 38 #[.agg #[.int .i64 m, .slice a zs.length c]] w (RetIB w (starZ m zs) (famIn m zs)) := by
  have F1 := FB.start (m := m) (c := c) ha
  have HB0 := Lib.hid (below1 w (.cells #[.int .i64 m, .slice a zs.length c] 25))
  have HF1 := Lib.hid F1
  have HFI := Lib.hid (specFamilyIn_any m a c zs _ F1.ints hx)
  have f_0 := F1.x0
  have f_1 := F1.x1
  clear F1 ha
  cases hf : famIn m zs
  · have HR : Hid (starZ m zs = 0) := Lib.hid (by unfold starZ famDeg; rw [hf]; rfl)
    have HF := Lib.hid hf
    clear hf
    go_enter Tryd.func38, Tryd.ntmps38
    go_wp2_with fail
    refine HFI.out.mono ?_
    rintro e w2 ⟨rfl, hb2⟩
    rw [HF.out]
    have HB2 := Lib.hid (HB0.out.trans (hb2.mono (by simp)))
    clear hb2 f_0 f_1
    go_wp2
    go_ret2
    exact ⟨by rw [HR.out]; rfl, HB2.out⟩
  · have HF := Lib.hid hf
    obtain ⟨hm1, hm6, -, -⟩ := famIn_out hf
    obtain ⟨k, rfl⟩ : ∃ k : Nat, m = (k : Int) := ⟨m.toNat, by omega⟩
    have HDG : Hid (famDeg (k : Int) zs = degL k (allMem zs)) := Lib.hid (by unfold famDeg; rw [hf, Int.toNat_natCast]; rfl)
    have HLD : Hid ((degL k (allMem zs)).length = k) := Lib.hid (degL_length _ _)
    have HST : Hid (starZ (k : Int) zs = mostI (degL k (allMem zs)) k) := Lib.hid (by unfold starZ; rw [HDG.out, HLD.out])
    have HDD : Hid (∀ W, Ints W W.heap.size a zs → Calls Tryd.prog 49 #[.agg #[.int .i64 (k : Int), .slice a zs.length c]] W (RetInts W (degL k (allMem zs)))) := Lib.hid fun W h => l1Degrees_any k a c zs W h hf
    clear hf
    go_enter Tryd.func38, Tryd.ntmps38
    go_wp2_with fail
    refine HFI.out.mono ?_
    rintro e w2 ⟨rfl, hb2⟩
    rw [HF.out]
    have HF2 := Lib.hid (HF1.out.step hb2)
    have HB2 := Lib.hid (HB0.out.trans (hb2.mono (by simp)))
    have HC := Lib.hid (HDD.out w2 HF2.out.ints)
    clear hb2 f_0 f_1
    have f_0 := HF2.out.x0
    have f_1 := HF2.out.x1
    obtain ⟨D, hD⟩ : ∃ D, D = degL k (allMem zs) := ⟨_, rfl⟩
    rw [← hD] at HC HLD HST
    clear hD
    go_wp2_with fail
    refine HC.out.mono ?_
    rintro e w3 ⟨a3, c3, rfl, ho3, hb3⟩
    have HI3 := Lib.hid (own_ints ho3)
    have HB3 := Lib.hid (HB2.out.trans (hb3.mono HB2.out.size))
    rw [HLD.out]
    clear hb3 ho3 f_0 f_1
    go_wp2
    go_loop [4, 6] (fun s i => ∃ j : Nat, j ≤ k ∧ i = .int .i64 (j : Int) ∧ s = .int .i64 (mostI D j)) (fun _ i => k - (intOf i).toNat)
    case atStart => exact ⟨0, Nat.zero_le _, rfl, rfl⟩
    case round =>
      obtain ⟨j, hj, rfl, rfl⟩ := hrel
      by_cases hlt : j < k
      · have hji : (j : Int) < (k : Int) := by omega
        have hj0 : (0 : Int) ≤ (j : Int) := by omega
        obtain ⟨b, off, rfl, hbb, hcc⟩ := HI3.out.at_ (k := j) (by rw [HLD.out]; exact hlt)
        have HSU := Lib.hid (mostI_succ (ys := D) (i := j) (by rw [HLD.out]; exact hlt))
        obtain ⟨z, hz⟩ : ∃ z, z = D[j]?.getD 0 := ⟨_, rfl⟩
        rw [← hz] at hcc HSU
        obtain ⟨M, hM⟩ : ∃ M, M = mostI D j := ⟨_, rfl⟩
        rw [← hM] at HSU ⊢
        clear hz hM
        go_wp2
        go_round
        case rel => exact ⟨j + 1, by omega, by go_num, by rw [HSU.out]⟩
        case measure => simp [intOf]; omega
      · obtain rfl : j = k := by omega
        go_wp2
        go_ret2
        exact ⟨by rw [HST.out]; rfl, HB3.out⟩

end Go.Proofs.YtgpgocijacgkhaaDoor

/- It is proved that a region that draws its order inside a round may be walked once where all its operations but the last ones leave the world alone; conditions: those of each statement. -/
namespace Go
section
variable {F : Fence} {n : Nat} {P : Program} {ops : Array Oper} {md : Region.Mode} {Q' : Exit → Act → World → Prop}

/-- A fence that shuts nothing out. -/
structure Fence.Open (F : Fence) : Prop where
  fns : ∀ f, F.fn f
  deep : F.depth.isSome = false
  calls : ∀ (P : Program) (f : FuncId) (args : Array Value) (w : World) (R : Ending → World → Prop) (m : Nat), Calls P f args w R → CallsIn F m P f args w R

theorem Fence.Open.wide : Fence.Open Fence.wide := ⟨fun _ => trivial, rfl, fun _ _ _ _ _ _ h => callsIn_wide.2 h⟩
theorem Fence.Open.inRound {F : Fence} (h : F.Open) (l : Nat) : (F.inRound l).Open := ⟨h.fns, h.deep, fun P f args w R m hc => CallsIn.inRound l (h.calls P f args w R m hc)⟩
theorem wpIn_of_still_o (hF : F.Open) {o : Oper} {a : Act} {w : World} {K : Act → Prop} {K' : Act → World → Prop} (hd : ∀ c, o.op ≠ .defer c) (h : ∀ a, K a → K' a w) (hh : o.still P a w K) : o.wpIn F n P a w K' Q' := by
  unfold Oper.still at hh
  unfold Oper.wpIn
  refine ⟨fun f _ => hF.fns f, ?_⟩
  rw [Oper.semAt_eq _ _ _ hd]
  generalize (execOp a.eval o).run P w = r at *
  cases r with
  | ok nx w' =>
    cases nx <;> simp only [Oper.stillUpon] at hh <;> simp only [Oper.uponIn]
    case enter f args =>
      obtain ⟨rfl, v, hc, hn⟩ := hh
      refine ⟨fun h1 => absurd h1 (by rw [hF.deep]; decide), (hF.calls _ _ _ _ _ _ hc).mono fun e w'' ⟨he, hw⟩ => ?_⟩
      subst he; subst hw; exact h _ hn
    all_goals (obtain ⟨rfl, h2⟩ := hh; exact h _ h2)
  | halt x w' => simp only [Oper.stillUpon] at hh

theorem wpOpIn_of_stOp_o (hF : F.Open) {i : Nat} {a : Act} {w : World} {K : Act → Prop} {K' : Act → World → Prop} (hd : ∀ o, ops[i]? = some o → ∀ c, o.op ≠ .defer c) (h : ∀ a, K a → K' a w) (hh : stOp P ops w i K a) : wpOpIn F n P ops Q' i K' a w := by
  unfold stOp at hh
  unfold wpOpIn
  split
  · rename_i ho; simp only [ho] at hh; exact h _ hh
  · rename_i o ho
    simp only [ho] at hh
    split
    · rename_i hw; simp only [hw, if_true] at hh; exact wpIn_of_still_o hF (hd o ho) h hh
    · rename_i hw; simp only [hw] at hh; exact ⟨fun f _ => hF.fns f, h _ hh⟩

theorem wpAnyIn_of_head_o (hF : F.Open) {m g : Nat} {w : World} {L : Array Bool → Act → Prop} (hd : ∀ (i : Nat) (o : Oper), ops[i]? = some o → ∀ c, o.op ≠ .defer c) (hL : ∀ listed a, L listed a → wpAnyIn F n P md ops Q' g listed a w) :
    ∀ (f : Nat) (listed : Array Bool) (a : Act), wpAnyL P md ops w m L f listed a → wpAnyIn F n P md ops Q' (f + g) listed a w
  | 0, listed, a, h => by rw [Nat.zero_add]; exact hL _ _ h
  | f + 1, listed, a, h => by
    rw [show f + 1 + g = (f + g) + 1 by omega]
    exact ⟨fun h0 => absurd h0 h.1, fun i hi => wpOpIn_of_stOp_o hF (hd i) (fun a' h' => wpAnyIn_of_head_o hF hd hL f _ a' h') (h.2 i hi).2⟩

theorem wpAnyIn_of_seq_o : ∀ (l : List Oper) (k : Nat) (listed : Array Bool) (a : Act) (w : World), (∀ j, l[j]? = ops[k + j]?) →
    Region.seqB md ops l.length k listed = true → wpListIn F n P ops Q' l a w → wpAnyIn F n P md ops Q' l.length listed a w
  | [], _, _, _, _, _, hB, h => ⟨by simpa [Region.seqB] using hB, h⟩
  | o :: l, k, listed, a, w, hl, hB, h => by
    have h0 : ops[k]? = some o := by simpa using (hl 0).symm
    simp only [List.length_cons, Region.seqB, Bool.and_eq_true, decide_eq_true_eq] at hB
    refine ⟨fun h1 => (by rw [hB.1] at h1; cases h1), fun i hi => ?_⟩
    rw [hB.1] at hi
    have hik : i = k := by simpa using hi
    subst hik
    have hw : wpOpIn F n P ops Q' i (wpListIn F n P ops Q' l) a w := by unfold wpOpIn; simp only [h0]; exact h
    exact wpOpIn_mono (fun a' w' h' => wpAnyIn_of_seq_o l (i + 1) _ a' w' (fun j => by have := hl (j + 1); simpa [Nat.add_assoc, Nat.add_comm 1 j] using this) hB.2 h') hw

def noDefer (l : List Oper) : Bool := l.all fun o => match o.op with | .defer _ => false | _ => true
theorem noDefer_spec {l : List Oper} (h : noDefer l = true) (i : Nat) (o : Oper) (hi : l.toArray[i]? = some o) : ∀ c, o.op ≠ .defer c := by
  have h1 := List.all_eq_true.1 h o (List.mem_of_getElem? (by simpa using hi))
  intro c e
  rw [e] at h1
  cases h1

theorem wpIn_region_still_tail_o (hF : F.Open) {id : Nat} {Q : Exit → Act → World → Prop} {a : Act} {w : World} {l : List Oper} (m : Nat) (hm : P.follows .mixedOrders = true) (hdf : noDefer l = true) (hB : Region.lexTailB .any l.toArray m = true)
    (h : wpStill P l.toArray { w with drawn := w.drawn + 1 } (fun a' => wpListIn F n P l.toArray Q (l.drop m) a' { w with drawn := w.drawn + 1 }) (l.take m) a) : (Code.region id l.toArray true).wpIn F n P Q a w := by
  simp only [Region.lexTailB, Bool.and_eq_true, decide_eq_true_eq] at hB
  obtain ⟨⟨⟨⟨hsel, hn⟩, hs⟩, hc⟩, hlex⟩ := hB
  have htl : (l.take m).length = m := by have : m < l.length := by simpa using hn
                                         simp; omega
  have hdl : (l.drop m).length = l.toArray.size - m := by simp
  have inv0 : HeadInv .any l.toArray m (Array.replicate l.toArray.size false) :=
    ⟨by simp, fun j oj _ hl => (by rw [getD_replicate_false] at hl; cases hl), fun t _ ht => getD_in (by simpa using ht) (getD_replicate_false _ _)⟩
  have H := wpAnyL_lex (md := .any) (g := l.toArray.size - m) hsel hs hc hn (l.take m) 0 _ a (fun j hj => by
    have hj' : j < m := by rw [htl] at hj; exact hj
    simp [hj']) (by simpa using htl) inv0 (by rw [htl]; exact hlex) h
  refine wpIn_region_any hm ?_
  have := wpAnyIn_of_head_o (n := n) (Q' := Q) (g := l.toArray.size - m) hF (noDefer_spec hdf) (fun listed a' hL => by
    have := wpAnyIn_of_seq_o (F := F) (n := n) (md := .any) (Q' := Q) (l.drop m) m listed a' { w with drawn := w.drawn + 1 } (fun j => by simp [List.getElem?_drop]) (by rw [hdl]; exact hL.1) hL.2
    rwa [hdl] at this) _ _ _ H
  rw [htl, show m + (l.toArray.size - m) = l.toArray.size by omega] at this
  exact this

end
end Go
