/- It is proved what MeetStars of the program and of the model return; conditions: those of each statement. -/
import Derived.RowKit
import Derived.Laws.CopyRow
import Derived.Lib.SlBuf
import Derived.Deep.QuietTactic
import Derived.RangeFuncNested
import Derived.RangeFuncBound
import Derived.RangeFuncCalls
import Derived.RangeFuncLeaves
import Derived.RangeFuncBox
import Derived.RangeFuncWrites
import Derived.StillTailTactics
import Derived.Maps.OwnIn
import Derived.Maps.Ext
import Derived.DeepKeys4
import Derived.MapKept
import Derived.Test.YtobjmiaanoheeaaDoorRows
import Derived.WalkKit
import Derived.WalkSpells
import Derived.ProofKit
import Derived.OpenShut
import Derived.ShutString
import Derived.ChangeOld
import Derived.Below
import Derived.Deep.RegionHeld3
import Derived.BigQuiet
import Derived.Lib.Hide
import Derived.Lib.SmallJoins
import Derived.Outline
import Derived.Laws.MakeOwn
import Derived.Laws.OwnMore
import Derived.IntWalk
import Derived.Maps.AppendAt
import Derived.Sort.MapsRangeIn
import Derived.Deep.RegionLaw
import Derived.Deep.AppendLies
import Derived.Deep.RegionWith
import Derived.Lib.AppendZeros
import Derived.OwnWalk
import Derived.Lib.SlicesCompact
import Derived.Lib.OwnBridge
import Derived.OrdersIn
import Derived.TacticsIn
import Derived.Shelf.Sort.Plain
import Derived.Shelf.Slices.In.SortNone
import Derived.Shelf.Slices.CompactI
import Derived.Ground.Names2Prog
import Derived.Lib.SliceRun
import Derived.Shelf.RegionOpen
import Derived.Shelf.Abstract
import Derived.OwnWalkIn
import Derived.TacticsInMore
import Derived.LoopNIn
import Derived.LoopIn
import Derived.StillTail
import Derived.StillTactics
import Derived.Shelf.Spec.TrailingZeros
import Derived.Deep.LoopGhost
import Derived.Test.YtobjmiaanoheeaaDoorRaaa
import Derived.Test.YtobjmiaanoheeaaDoorRaab
import Derived.Test.YtobjmiaanoheeaaDoorRaam
import Derived.Test.YtobjmiaanoheeaaDoorRaay
import Derived.Test.YtobjmiaanoheeaaDoorRaae
import Derived.Test.YtobjmiaanoheeaaDoorRaac
import Derived.Test.YtobjmiaanoheeaaDoorRabi
import Derived.Test.YtobjmiaanoheeaaDoorRaaq
import Derived.Test.YtobjmiaanoheeaaDoorRaad
import Derived.Test.YtobjmiaanoheeaaDoorTc
import Derived.Test.YtobjmiaanoheeaaDoorRabb
import Derived.Test.YtobjmiaanoheeaaDoorRaao
namespace Go.Proofs.YtobjmiaanoheeaaDoor
open Go.RowKit Go.Shelf

def starZ (m : Int) (zs : List Int) : Int := mostI (famDeg m zs) (famDeg m zs).length
theorem famDeg_nn {m : Int} {zs : List Int} : ∀ y ∈ famDeg m zs, 0 ≤ y := fun y hy => by
  unfold famDeg at hy
  split at hy
  · unfold degL at hy
    obtain ⟨v, _, rfl⟩ := List.mem_map.1 hy
    omega
  · simp at hy

theorem maxR_most {zs : List Int} {M : Int} (h : MaxR zs zs.length M) (hn : ∀ y ∈ zs, 0 ≤ y) : M = mostI zs zs.length := by
  obtain ⟨h1, j, hj, h2⟩ := h
  have hjm : zs[j]?.getD 0 ∈ zs := by rw [List.getElem?_eq_getElem hj, Option.getD_some]; exact List.getElem_mem hj
  have a1 : M ≤ mostI zs zs.length := by rw [← h2]; exact mostI_all _ hjm
  have a2 : mostI zs zs.length ≤ M := mostI_le (by rw [← h2]; exact hn _ hjm) (fun y hy => by
    obtain ⟨i, hi, rfl⟩ := List.mem_iff_getElem.1 hy
    have := h1 i hi
    rwa [List.getElem?_eq_getElem hi, Option.getD_some] at this) _
  omega

theorem famDeg_len1 {m : Int} {zs : List Int} (h : famIn m zs = true) : (famDeg m zs).length = m.toNat := by
  unfold famDeg; rw [h]; exact degL_length _ _

set_option maxRecDepth 100000 in
set_option maxHeartbeats 2000000 in
theorem implStars_any (m : Int) (a : Option Addr) (c : Nat) (zs : List Int) (w : World) (ha : Ints w w.heap.size a zs) (hT : Tab w) (hx : zs.length ≤ 1048576) :
    Calls Tryd.prog 32 #[.agg #[.int .i64 m, .slice a zs.length c]] w (RetIB w (starZ m zs) (famIn m zs)) := by
  have F1 := FB.start (m := m) (c := c) ha
  have HB0 := Lib.hid (below1 w (.cells #[.int .i64 m, .slice a zs.length c] 25))
  have HD := Lib.hid (implDegrees_any m a c zs _ F1.ints (hT.step HB0.out) hx)
  have f_0 := F1.x0
  have f_1 := F1.x1
  clear F1 ha hT
  cases hf : famIn m zs
  · have HR : Hid (starZ m zs = 0) := Lib.hid (by unfold starZ famDeg; rw [hf]; rfl)
    have HF := Lib.hid hf
    clear hf
    go_enter Tryd.func32, Tryd.ntmps32
    go_wp2_with fail
    refine HD.out.mono ?_
    rintro e w2 ⟨a2, c2, rfl, -, hb2⟩
    rw [HF.out]
    have HB2 := Lib.hid (HB0.out.trans (hb2.mono (by simp)))
    clear hb2 f_0 f_1
    go_wp2
    go_ret2
    exact ⟨by rw [HR.out]; rfl, HB2.out⟩
  · have HF := Lib.hid hf
    obtain ⟨hm1, hm6, -, -⟩ := famIn_out hf
    have hL := famDeg_len1 hf
    obtain ⟨L, hLL⟩ : ∃ L, L = (famDeg m zs).length := ⟨_, rfl⟩
    have HL := Lib.hid hLL
    have hL1 : 1 ≤ (famDeg m zs).length := by omega
    have hL2 : (famDeg m zs).length ≤ 1048576 := by omega
    clear hf hL
    go_enter Tryd.func32, Tryd.ntmps32
    go_wp2_with fail
    refine HD.out.mono ?_
    rintro e w2 ⟨a2, c2, rfl, ho2, hb2⟩
    rw [HF.out]
    have HB2 := Lib.hid (HB0.out.trans (hb2.mono (by simp)))
    have HM := Lib.hid (maxI_any a2 c2 (famDeg m zs) w2 (own_ints ho2) hL1 hL2)
    rw [← HL.out] at HM ⊢
    clear hb2 f_0 f_1 ho2 hLL hL1 hL2
    go_wp2_with fail
    refine HM.out.mono ?_
    rintro e w3 ⟨⟨M, rfl, hM⟩, rfl⟩
    have HMM : Hid (M = starZ m zs) := Lib.hid (by rw [HL.out] at hM; exact maxR_most hM famDeg_nn)
    clear hM
    go_wp2
    go_ret2
    exact ⟨by rw [← HMM.out]; rfl, HB2.out⟩

set_option maxRecDepth 100000 in
set_option maxHeartbeats 2000000 in
theorem specStars_any (m : Int) (a : Option Addr) (c : Nat) (zs : List Int) (w : World) (ha : Ints w w.heap.size a zs) (hx : zs.length ≤ 1048576) :
    Calls Tryd.prog 40 #[.agg #[.int .i64 m, .slice a zs.length c]] w (RetIB w (starZ m zs) (famIn m zs)) := by
  have F1 := FB.start (m := m) (c := c) ha
  have HB0 := Lib.hid (below1 w (.cells #[.int .i64 m, .slice a zs.length c] 25))
  have HF1 := Lib.hid F1
  have HFI := Lib.hid (specFamilyIn_any m a c zs _ F1.ints hx)
  have f_0 := F1.x0
  have f_1 := F1.x1
  clear F1 ha
  cases hf : famIn m zs
  · have HR : Hid (starZ m zs = 0) := Lib.hid (by unfold starZ famDeg; rw [hf]; rfl)
    have HF := Lib.hid hf
    clear hf
    go_enter Tryd.func40, Tryd.ntmps40
    go_wp2_with fail
    refine HFI.out.mono ?_
    rintro e w2 ⟨rfl, hb2⟩
    rw [HF.out]
    have HB2 := Lib.hid (HB0.out.trans (hb2.mono (by simp)))
    clear hb2 f_0 f_1
    go_wp2
    go_ret2
    exact ⟨by rw [HR.out]; rfl, HB2.out⟩
  · have HF := Lib.hid hf
    obtain ⟨hm1, hm6, -, -⟩ := famIn_out hf
    obtain ⟨k, rfl⟩ : ∃ k : Nat, m = (k : Int) := ⟨m.toNat, by omega⟩
    have HDG : Hid (famDeg (k : Int) zs = degL k (allMem zs)) := Lib.hid (by unfold famDeg; rw [hf, Int.toNat_natCast]; rfl)
    have HLD : Hid ((degL k (allMem zs)).length = k) := Lib.hid (degL_length _ _)
    have HST : Hid (starZ (k : Int) zs = mostI (degL k (allMem zs)) k) := Lib.hid (by unfold starZ; rw [HDG.out, HLD.out])
    have HDD : Hid (∀ W, Ints W W.heap.size a zs → Calls Tryd.prog 78 #[.agg #[.int .i64 (k : Int), .slice a zs.length c]] W (RetInts W (degL k (allMem zs)))) := Lib.hid fun W h => l1Degrees_any k a c zs W h hf
    clear hf
    go_enter Tryd.func40, Tryd.ntmps40
    go_wp2_with fail
    refine HFI.out.mono ?_
    rintro e w2 ⟨rfl, hb2⟩
    rw [HF.out]
    have HF2 := Lib.hid (HF1.out.step hb2)
    have HB2 := Lib.hid (HB0.out.trans (hb2.mono (by simp)))
    have HC := Lib.hid (HDD.out w2 HF2.out.ints)
    clear hb2 f_0 f_1
    have f_0 := HF2.out.x0
    have f_1 := HF2.out.x1
    obtain ⟨D, hD⟩ : ∃ D, D = degL k (allMem zs) := ⟨_, rfl⟩
    rw [← hD] at HC HLD HST
    clear hD
    go_wp2_with fail
    refine HC.out.mono ?_
    rintro e w3 ⟨a3, c3, rfl, ho3, hb3⟩
    have HI3 := Lib.hid (own_ints ho3)
    have HB3 := Lib.hid (HB2.out.trans (hb3.mono HB2.out.size))
    rw [HLD.out]
    clear hb3 ho3 f_0 f_1
    go_wp2
    go_loop [4, 6] (fun s i => ∃ j : Nat, j ≤ k ∧ i = .int .i64 (j : Int) ∧ s = .int .i64 (mostI D j)) (fun _ i => k - (intOf i).toNat)
    case atStart => exact ⟨0, Nat.zero_le _, rfl, rfl⟩
    case round =>
      obtain ⟨j, hj, rfl, rfl⟩ := hrel
      by_cases hlt : j < k
      · have hji : (j : Int) < (k : Int) := by omega
        have hj0 : (0 : Int) ≤ (j : Int) := by omega
        obtain ⟨b, off, rfl, hbb, hcc⟩ := HI3.out.at_ (k := j) (by rw [HLD.out]; exact hlt)
        have HSU := Lib.hid (mostI_succ (ys := D) (i := j) (by rw [HLD.out]; exact hlt))
        obtain ⟨z, hz⟩ : ∃ z, z = D[j]?.getD 0 := ⟨_, rfl⟩
        rw [← hz] at hcc HSU
        obtain ⟨M, hM⟩ : ∃ M, M = mostI D j := ⟨_, rfl⟩
        rw [← hM] at HSU ⊢
        clear hz hM
        go_wp2
        go_round
        case rel => exact ⟨j + 1, by omega, by go_num, by rw [HSU.out]⟩
        case measure => simp [intOf]; omega
      · obtain rfl : j = k := by omega
        go_wp2
        go_ret2
        exact ⟨by rw [HST.out]; rfl, HB3.out⟩

end Go.Proofs.YtobjmiaanoheeaaDoor

/- It is proved that the most clubs that get a member of a set are all clubs but as many as the worst set of places falls short by; conditions: those of each statement. -/
namespace Go.Proofs.YtobjmiaanoheeaaDoor
open Go.RowKit

/-- How many of the first k numbers a set has. -/
def cntK (k s : Nat) : Nat := (memK k s).length

theorem flt_ie (p q : Nat → Bool) : ∀ l : List Nat, (l.filter fun i => p i || q i).length + (l.filter fun i => p i && q i).length = (l.filter p).length + (l.filter q).length
  | [] => rfl
  | x :: l => by
    have ih := flt_ie p q l
    simp only [List.filter_cons]
    cases p x <;> cases q x <;> simp <;> omega

theorem flt_le {p q : Nat → Bool} : ∀ l : List Nat, (∀ i ∈ l, p i = true → q i = true) → (l.filter p).length ≤ (l.filter q).length
  | [], _ => Nat.le_refl _
  | x :: l, h => by
    have ih := flt_le (p := p) (q := q) l fun i hi => h i (List.mem_cons_of_mem _ hi)
    have hx := h x (List.mem_cons_self ..)
    simp only [List.filter_cons]
    cases hp : p x
    · cases q x <;> simp <;> omega
    · rw [hx hp]; simp; omega

theorem cnt_ie (k a b : Nat) : cntK k (a ||| b) + cntK k (a &&& b) = cntK k a + cntK k b := by
  unfold cntK memK
  simp only [Nat.testBit_or, Nat.testBit_and]
  exact flt_ie _ _ _

theorem cntK_le {k a b : Nat} (h : ∀ i, a.testBit i = true → b.testBit i = true) : cntK k a ≤ cntK k b := flt_le _ fun i _ hi => h i hi
end Go.Proofs.YtobjmiaanoheeaaDoor

/- It is proved how sums of degrees, sizes, unions and meetings of clubs count their members; conditions: those of each statement. -/
namespace Go.Proofs.YtobjmiaanoheeaaDoor
open Go.RowKit

theorem sum_ite (f : Nat → Int) (u : Nat) : ∀ k, ((List.range k).map fun v => f v + if u = v then 1 else 0).sum = ((List.range k).map f).sum + if u < k then 1 else 0
  | 0 => by simp
  | k + 1 => by
    rw [List.range_succ, List.map_append, List.map_append, List.sum_append, List.sum_append, sum_ite f u k]
    simp only [List.map_cons, List.map_nil, List.sum_cons, List.sum_nil]
    have e1 : (if u < k + 1 then (1 : Int) else 0) = (if u < k then 1 else 0) + (if u = k then 1 else 0) := by
      split <;> split <;> split <;> omega
    rw [e1]
    generalize (if u < k then (1 : Int) else 0) = p
    generalize (if u = k then (1 : Int) else 0) = q
    omega

theorem sum_deg (k : Nat) : ∀ us : List Nat, (∀ u ∈ us, u < k) → (degL k us).sum = (us.length : Int)
  | [], _ => by rw [degL_nil]; simp
  | u :: us, h => by
    have ih := sum_deg k us (fun x hx => h x (by simp [hx]))
    have hu := h u (by simp)
    have e : degL k (u :: us) = (List.range k).map fun v => ((us.count v : Nat) : Int) + if u = v then 1 else 0 := by
      unfold degL
      apply List.map_congr_left
      intro v _
      rw [List.count_cons]
      by_cases h1 : u = v
      · simp [h1]
      · simp [h1]
    rw [e, sum_ite, if_pos hu]
    rw [show ((List.range k).map fun v => ((us.count v : Nat) : Int)).sum = (degL k us).sum from rfl, ih]
    simp

set_option maxRecDepth 100000 in
theorem pop_mem_fin : ∀ s : Fin 64, pop (s.val : Int) = ((mem s.val).length : Int) := by decide +kernel

theorem pop_mem {s : Nat} (h : s < 64) : pop (s : Int) = ((mem s).length : Int) := pop_mem_fin ⟨s, h⟩
theorem allMem_cons (z : Int) (zs : List Int) : allMem (z :: zs) = mem z.toNat ++ allMem zs := by simp [allMem]
theorem sum_sizes : ∀ zs : List Int, (∀ z ∈ zs, 0 ≤ z ∧ z ≤ 63) → (zs.map pop).sum = ((allMem zs).length : Int)
  | [], _ => by simp [allMem]
  | z :: zs, h => by
    have ih := sum_sizes zs (fun x hx => h x (by simp [hx]))
    have hz := h z (by simp)
    have e := pop_mem (s := z.toNat) (by omega)
    rw [Int.toNat_of_nonneg hz.1] at e
    rw [allMem_cons, List.map_cons, List.sum_cons, ih, e, List.length_append]
    simp

theorem small63 {m : Int} {zs : List Int} (h : famIn m zs = true) : ∀ z ∈ zs, 0 ≤ z ∧ z ≤ 63 := fun z hz => by
  obtain ⟨h1, h2, h3, h4⟩ := famIn_out h
  have := h4 z hz
  have h5 : fullI m ≤ 63 := by rcases m16 h1 h2 with rfl | rfl | rfl | rfl | rfl | rfl <;> decide
  omega

theorem allMem_lt {k : Nat} {zs : List Int} (h : famIn (k : Int) zs = true) : ∀ u ∈ allMem zs, u < k := by
  intro u hu
  obtain ⟨h1, h2, h3, h4⟩ := famIn_out h
  obtain ⟨z, hz, hu⟩ := List.mem_flatMap.1 hu
  have := h4 z hz
  have hf : fullI (k : Int) = ((2 ^ k : Nat) : Int) - 1 := by simp [fullI]
  exact mem_lt k (by omega) z.toNat (by omega) u hu

theorem sums_same {m : Int} {zs : List Int} (h : famIn m zs = true) : (famDeg m zs).sum = (zs.map pop).sum := by
  obtain ⟨h1, h2, h3, h4⟩ := famIn_out h
  obtain ⟨k, rfl⟩ : ∃ k : Nat, m = (k : Int) := ⟨m.toNat, by omega⟩
  rw [famDeg, if_pos h, Int.toNat_natCast, sum_deg k _ (allMem_lt h), sum_sizes zs (small63 h)]

set_option maxRecDepth 100000 in
theorem mem_one_fin : ∀ s : Fin 64, ∀ v : Fin 6, (mem s.val).count v.val = if s.val.testBit v.val then 1 else 0 := by decide +kernel

theorem mem_one {s v : Nat} (hs : s < 64) (hv : v < 6) : (mem s).count v = if s.testBit v then 1 else 0 := mem_one_fin ⟨s, hs⟩ ⟨v, hv⟩
/-- A club has a member. -/
def hasM (v : Nat) (z : Int) : Bool := z.toNat.testBit v

theorem count_all {v : Nat} (hv : v < 6) : ∀ zs : List Int, (∀ z ∈ zs, 0 ≤ z ∧ z ≤ 63) → (allMem zs).count v = zs.countP (hasM v)
  | [], _ => by simp [allMem]
  | z :: zs, h => by
    have ih := count_all hv zs (fun x hx => h x (by simp [hx]))
    have hz := h z (by simp)
    rw [allMem_cons, List.count_append, ih, mem_one (by omega) hv, List.countP_cons]
    unfold hasM
    omega

end Go.Proofs.YtobjmiaanoheeaaDoor

/- It is proved what the FamilySizes of the model returns; conditions: those of each statement. -/
namespace Go.Proofs.YtobjmiaanoheeaaDoor
open Go.RowKit

theorem fullI_63 {m : Int} (h1 : 1 ≤ m) (h2 : m ≤ 6) : fullI m ≤ 63 := by
  rcases m16 h1 h2 with rfl | rfl | rfl | rfl | rfl | rfl <;> decide

def sizesZ (m : Int) (zs : List Int) : List Int := if famIn m zs then zs.map pop else []
theorem sizesZ_len (m : Int) (zs : List Int) (h : zs.length ≤ 1048576) : (sizesZ m zs).length ≤ 1048576 := by
  unfold sizesZ; split <;> simp; exact h

end Go.Proofs.YtobjmiaanoheeaaDoor
