/- It is proved that mixed words over two colours are as many as sets that are covers and whose other members are one, and that such sets read backwards are the other members; conditions: those of each statement. -/
import Derived.RowKit
import Derived.Laws.CopyRow
import Derived.Lib.SlBuf
import Derived.Deep.QuietTactic
import Derived.RangeFuncNested
import Derived.RangeFuncBound
import Derived.RangeFuncCalls
import Derived.RangeFuncLeaves
import Derived.RangeFuncBox
import Derived.RangeFuncWrites
import Derived.StillTailTactics
import Derived.Maps.OwnIn
import Derived.Maps.Ext
import Derived.DeepKeys4
import Derived.MapKept
import Derived.Test.YtnpfdgbbcapnkaaDoorRows
import Derived.WalkKit
import Derived.WalkSpells
import Derived.ProofKit
import Derived.OpenShut
import Derived.ShutString
import Derived.ChangeOld
import Derived.Below
import Derived.Deep.RegionHeld3
import Derived.BigQuiet
import Derived.Lib.Hide
import Derived.Lib.SmallJoins
import Derived.Outline
import Derived.Laws.MakeOwn
import Derived.Laws.OwnMore
import Derived.IntWalk
import Derived.Maps.AppendAt
import Derived.Deep.RegionLaw
import Derived.Deep.AppendLies
import Derived.Lib.AppendZeros
import Derived.OwnWalk
import Derived.Lib.SlicesCompact
import Derived.Lib.OwnBridge
import Derived.OrdersIn
import Derived.TacticsIn
import Derived.Shelf.Sort.Plain
import Derived.Shelf.Slices.In.SortNone
import Derived.Shelf.Slices.CompactI
import Derived.Ground.Names2Prog
import Derived.Lib.SliceRun
import Derived.Shelf.Abstract
import Derived.Shelf.RegionOpen
import Derived.OwnWalkIn
import Derived.TacticsInMore
import Derived.LoopNIn
import Derived.LoopIn
import Derived.StillTail
import Derived.StillTactics
import Derived.Shelf.Spec.TrailingZeros
import Derived.Deep.LoopGhost
import Derived.Test.YtnpfdgbbcapnkaaDoorRbaj
import Derived.Test.YtnpfdgbbcapnkaaDoorJh
import Derived.Test.YtnpfdgbbcapnkaaDoorRbba
import Derived.Test.YtnpfdgbbcapnkaaDoorRbaf
import Derived.Test.YtnpfdgbbcapnkaaDoorRbah
namespace Go.Proofs.YtnpfdgbbcapnkaaDoor

/-- The members with the second colour. -/
def setOf1 : List Int → Nat
  | [] => 0
  | x :: c => (if x = 1 then 1 else 0) + 2 * setOf1 c

set_option maxRecDepth 100000 in
theorem mix_set_fin : ∀ m : Fin 7, ∀ c ∈ wordsL (palI 2) m.val, ∀ z : Fin 64, z.val < 2 ^ m.val → mixZ c (z.val : Int) = ((z.val &&& setOf1 c != 0) && (z.val &&& (2 ^ m.val - 1 - setOf1 c) != 0)) := by decide +kernel

set_option maxRecDepth 100000 in
theorem perm_fin : ∀ m : Fin 7, ((wordsL (palI 2) m.val).map setOf1).isPerm (List.range (2 ^ m.val)) = true := by decide +kernel

theorem cnt_two {m : Nat} (hm : m ≤ 6) {zs : List Int} (hz : Sets m zs) : cntCM m zs 2 = (csL m zs).length := by
  unfold cntCM csL csTo
  rw [List.length_map, ← List.countP_eq_length_filter]
  have hp : ((wordsL (palI 2) m).map setOf1).Perm (List.range (2 ^ m)) := List.isPerm_iff.1 (perm_fin ⟨m, by omega⟩)
  rw [← hp.countP_eq, List.countP_map]
  apply List.countP_congr
  intro c hc
  show mixB zs c = true ↔ csB m zs (setOf1 c) = true
  have hf : ∀ z ∈ zs, mixZ c z = ((z.toNat &&& setOf1 c != 0) && (z.toNat &&& (2 ^ m - 1 - setOf1 c) != 0)) := fun z hzz => by
    have := mix_set_fin ⟨m, by omega⟩ c hc ⟨z.toNat, p64 hm (hz z hzz).2⟩ (hz z hzz).2
    simp only [Int.toNat_of_nonneg (hz z hzz).1] at this
    exact this
  unfold mixB csB covB
  simp only [List.all_eq_true, Bool.and_eq_true]
  constructor
  · intro h
    refine ⟨fun z hz' => ?_, fun z hz' => ?_⟩
    · have := h z hz'; rw [hf z hz', Bool.and_eq_true] at this; exact this.1
    · have := h z hz'; rw [hf z hz', Bool.and_eq_true] at this; exact this.2
  · rintro ⟨h1, h2⟩ z hz'
    rw [hf z hz', Bool.and_eq_true]
    exact ⟨h1 z hz', h2 z hz'⟩

theorem csB_other {m s : Nat} {zs : List Int} (h : s < 2 ^ m) : csB m zs (2 ^ m - 1 - s) = csB m zs s := by
  unfold csB
  rw [show 2 ^ m - 1 - (2 ^ m - 1 - s) = s by omega, Bool.and_comm]

theorem range_back (N : Nat) : (List.range N).reverse = (List.range N).map fun s => N - 1 - s := by
  apply List.ext_getElem
  · simp
  · intro i h1 h2
    simp

theorem filter_back {N : Nat} {p : Nat → Bool} (h : ∀ s, s < N → p (N - 1 - s) = p s) : ((List.range N).filter p).reverse = ((List.range N).filter p).map fun s => N - 1 - s := by
  rw [← List.filter_reverse, range_back, List.filter_map]
  congr 1
  apply List.filter_congr
  intro s hs
  exact h s (List.mem_range.1 hs)

theorem csL_back {m : Nat} {zs : List Int} {i : Nat} (h : i < (csL m zs).length) : (csL m zs)[i]?.getD 0 + (csL m zs)[(csL m zs).length - 1 - i]?.getD 0 = ((2 ^ m - 1 : Nat) : Int) := by
  have hb := filter_back (N := 2 ^ m) (p := csB m zs) fun s hs => csB_other hs
  unfold csL csTo at h ⊢
  rw [List.length_map] at h ⊢
  have hlt : ∀ s ∈ (List.range (2 ^ m)).filter (csB m zs), s < 2 ^ m := fun s hs => List.mem_range.1 (List.mem_filter.1 hs).1
  generalize (List.range (2 ^ m)).filter (csB m zs) = L at h hb hlt ⊢
  have h2 : L.length - 1 - i < L.length := by omega
  have e := congrArg (fun l => l[i]?) hb
  simp only [List.getElem?_map, List.getElem?_reverse h, List.getElem?_eq_getElem h, List.getElem?_eq_getElem h2, Option.map_some, Option.some.injEq] at e
  have hi := hlt _ (List.getElem_mem h)
  simp only [List.getElem?_map, List.getElem?_eq_getElem h, List.getElem?_eq_getElem h2, Option.map_some, Option.getD_some]
  omega

end Go.Proofs.YtnpfdgbbcapnkaaDoor
