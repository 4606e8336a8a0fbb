/- It is proved that the orbits of a family's own names divide its members, have members of one degree, and sizes that divide the number of own names; conditions: those of each statement. -/
import Derived.RowKit
import Derived.Laws.CopyRow
import Derived.Lib.SlBuf
import Derived.Deep.QuietTactic
import Derived.RangeFuncNested
import Derived.RangeFuncBound
import Derived.RangeFuncCalls
import Derived.RangeFuncLeaves
import Derived.RangeFuncBox
import Derived.RangeFuncWrites
import Derived.StillTailTactics
import Derived.Maps.OwnIn
import Derived.Maps.Ext
import Derived.DeepKeys4
import Derived.MapKept
import Derived.Test.YtijpgbkjgjpmmaaDoorRows
import Derived.WalkKit
import Derived.WalkSpells
import Derived.ProofKit
import Derived.OpenShut
import Derived.ShutString
import Derived.ChangeOld
import Derived.Below
import Derived.Deep.RegionHeld3
import Derived.BigQuiet
import Derived.Lib.Hide
import Derived.Lib.SmallJoins
import Derived.Outline
import Derived.Laws.MakeOwn
import Derived.Laws.OwnMore
import Derived.IntWalk
import Derived.Maps.AppendAt
import Derived.Sort.MapsRangeIn
import Derived.Deep.RegionLaw
import Derived.Deep.AppendLies
import Derived.Lib.AppendZeros
import Derived.OwnWalk
import Derived.Lib.SlicesCompact
import Derived.Lib.OwnBridge
import Derived.OrdersIn
import Derived.TacticsIn
import Derived.Shelf.Sort.Plain
import Derived.Shelf.Slices.In.SortNone
import Derived.Shelf.Slices.CompactI
import Derived.Ground.Names2Prog
import Derived.Shelf.Abstract
import Derived.Shelf.RegionOpen
import Derived.OwnWalkIn
import Derived.TacticsInMore
import Derived.LoopNIn
import Derived.LoopIn
import Derived.StillTail
import Derived.StillTactics
import Derived.Shelf.Spec.TrailingZeros
import Derived.Test.YtijpgbkjgjpmmaaDoorMrab
import Derived.Test.YtijpgbkjgjpmmaaDoorMrae
import Derived.Test.YtijpgbkjgjpmmaaDoorMraa
import Derived.Test.YtijpgbkjgjpmmaaDoorMrar
import Derived.Test.YtijpgbkjgjpmmaaDoorMras
import Derived.Test.YtijpgbkjgjpmmaaDoorMrat
import Derived.Test.YtijpgbkjgjpmmaaDoorMrac
namespace Go.Proofs.YtijpgbkjgjpmmaaDoor
open Go.RowKit

theorem name_lt {k : Nat} {p : List Nat} (hp : p ∈ lvlL k k) {v : Nat} (hv : v < k) : p[v]?.getD 0 < k := by
  have hl := lvlL_in hp
  have := lvlL_lt hp p[v] (List.getElem_mem _)
  simpa [show v < p.length by omega] using this

/-! ### orbits as sets -/
/-! ### sizes -/
/-! ### degrees -/
theorem count_bit_fin : ∀ s : Fin 64, ∀ v : Fin 6, (mem s.val).count v.val = if s.val.testBit v.val then 1 else 0 := by decide +kernel
theorem count_bit {s v : Nat} (hs : s < 64) (hv : v < 6) : (mem s).count v = if s.testBit v then 1 else 0 := count_bit_fin ⟨s, hs⟩ ⟨v, hv⟩
theorem deg_countP {v : Nat} (hv : v < 6) : ∀ (zs : List Int), (∀ z ∈ zs, z.toNat < 64) → (allMem zs).count v = zs.countP fun z => z.toNat.testBit v
  | [], _ => by simp [allMem]
  | z :: zs, h => by
    rw [allMem_cons, List.count_append, deg_countP hv zs (fun x hx => h x (by simp [hx])), count_bit (h z (by simp)) hv, List.countP_cons, Nat.add_comm]

theorem called_deg {k : Nat} (hk : k ≤ 6) {zs : List Int} (hf : famIn (k : Int) zs = true) {p : List Nat} (hp : p ∈ lvlL k k) {v : Nat} (hv : v < k) : (allMem (zs.map (callZ (nI p)))).count (p[v]?.getD 0) = (allMem zs).count v := by
  have h64 := pow64 k hk
  have hpv := name_lt hp hv
  rw [deg_countP (by omega) zs (fun z hz => by have := (fam_small hf z hz).2; omega), deg_countP (by omega) _ (fun z hz => by have := (fam_small (fam_called hk hp hf) z hz).2; omega), List.countP_map]
  apply List.countP_congr
  intro z hz
  have b := called_bit hk (perm_names hk hp) (fam_small hf z hz).2 hv
  rw [nI_at p _ (by rw [lvlL_in hp]; exact hv)] at b
  rw [Function.comp, callZ, Int.toNat_natCast, b]

theorem allMem_perm {xs ys : List Int} (h : xs.Perm ys) : (allMem xs).Perm (allMem ys) := h.flatMap_right _
/-! ### all at once -/
end Go.Proofs.YtijpgbkjgjpmmaaDoor
