/- It is proved which list is the least of a map's keys; conditions: those of each statement. -/
import Derived.RowKit
import Derived.Laws.CopyRow
import Derived.Lib.SlBuf
import Derived.Deep.QuietTactic
import Derived.RangeFuncNested
import Derived.RangeFuncBound
import Derived.RangeFuncCalls
import Derived.RangeFuncLeaves
import Derived.RangeFuncBox
import Derived.RangeFuncWrites
import Derived.StillTailTactics
import Derived.Maps.OwnIn
import Derived.Maps.Ext
import Derived.DeepKeys4
import Derived.MapKept
import Derived.Test.YtjclfpcnfmpjdaaDoorRows
import Derived.WalkKit
import Derived.WalkSpells
import Derived.ProofKit
import Derived.OpenShut
import Derived.ShutString
import Derived.ChangeOld
import Derived.Below
import Derived.Deep.RegionHeld3
import Derived.BigQuiet
import Derived.Lib.Hide
import Derived.Lib.SmallJoins
import Derived.Outline
import Derived.Laws.MakeOwn
import Derived.Laws.OwnMore
import Derived.IntWalk
import Derived.Maps.AppendAt
import Derived.Sort.MapsRangeIn
import Derived.Lib.AppendZeros
import Derived.Deep.AppendLies
import Derived.OwnWalk
import Derived.Lib.SlicesCompact
import Derived.Lib.OwnBridge
import Derived.OrdersIn
import Derived.TacticsIn
import Derived.Shelf.Sort.Plain
import Derived.Shelf.Slices.In.SortNone
import Derived.Shelf.Slices.CompactI
import Derived.Ground.Names2Prog
import Derived.Shelf.Abstract
import Derived.Shelf.RegionOpen
import Derived.OwnWalkIn
import Derived.TacticsInMore
import Derived.LoopNIn
import Derived.LoopIn
import Derived.StillTail
import Derived.StillTactics
import Derived.Shelf.Spec.TrailingZeros
import Derived.Test.YtjclfpcnfmpjdaaDoorMsb
namespace Go.Proofs.YtjclfpcnfmpjdaaDoor
open Go.RowKit Go.Shelf Go.Maps

theorem lexB_trans : ∀ xs ys zs : List Int, lexB xs ys = true → lexB ys zs = true → lexB xs zs = true
  | [], [], _, h, _ => by simp [lexB] at h
  | [], _ :: _, [], _, h => by simp [lexB] at h
  | [], _ :: _, _ :: _, _, _ => by simp [lexB]
  | _ :: _, [], _, h, _ => by simp [lexB] at h
  | _ :: _, _ :: _, [], _, h => by simp [lexB] at h
  | x :: xs, y :: ys, z :: zs, h1, h2 => by
    rw [lexB] at h1 h2 ⊢
    by_cases e1 : x = y
    · subst e1
      rw [if_pos rfl] at h1
      by_cases e2 : x = z
      · subst e2
        rw [if_pos rfl] at h2 ⊢
        exact lexB_trans xs ys zs h1 h2
      · rw [if_neg e2] at h2 ⊢; exact h2
    · rw [if_neg e1] at h1
      have h1 := of_decide_eq_true h1
      by_cases e2 : y = z
      · subst e2
        rw [if_neg e1]; exact decide_eq_true h1
      · rw [if_neg e2] at h2
        have h2 := of_decide_eq_true h2
        rw [if_neg (by omega)]; exact decide_eq_true (by omega)

theorem lexB_eq {xs ys : List Int} (h1 : lexB xs ys = false) (h2 : lexB ys xs = false) : xs = ys := by
  have := lex_both xs ys
  rw [h1, h2] at this
  simpa using this

theorem lexB_app : ∀ (xs ys t : List Int), xs.length = ys.length → lexB (xs ++ t) (ys ++ t) = lexB xs ys
  | [], [], t, _ => by simp [lexB, lexB_self]
  | [], _ :: _, _, h => by simp at h
  | _ :: _, [], _, h => by simp at h
  | x :: xs, y :: ys, t, h => by
    rw [List.cons_append, List.cons_append, lexB, lexB, lexB_app xs ys t (by simpa using h)]

theorem lexB_under {x y z : List Int} (h1 : lexB y z = true) (h2 : lexB x z = false) : lexB x y = false := by
  cases h : lexB x y
  · rfl
  · rw [lexB_trans x y z h h1] at h2; cases h2

theorem minG_mem (L : List (List Int)) : ∀ i, i < L.length → minG L i ∈ L
  | 0, h => by rw [minG, List.getElem?_eq_getElem h]; exact List.getElem_mem h
  | i + 1, h => by
    rw [minG]; split
    · rw [List.getElem?_eq_getElem h]; exact List.getElem_mem h
    · exact minG_mem L i (by omega)

theorem minG_least (L : List (List Int)) : ∀ i j, j ≤ i → lexB (L[j]?.getD []) (minG L i) = false
  | 0, j, h => by obtain rfl : j = 0 := by omega
                  rw [minG]; exact lexB_self _
  | i + 1, j, h => by
    rw [minG]
    by_cases e : j = i + 1
    · subst e
      split
      · exact lexB_self _
      · rename_i hh; simpa using hh
    · have := minG_least L i j (by omega)
      split
      · rename_i hh; exact lexB_under hh this
      · exact this

theorem bestG_of (zs : List Int) (L : List (List Nat)) : ∀ i, (bestG zs L i).1 = lstP zs (bestG zs L i).2
  | 0 => rfl
  | i + 1 => by
    rw [bestG]; split
    · rfl
    · exact bestG_of zs L i

theorem bestG_least (zs : List Int) (L : List (List Nat)) : ∀ i j, j ≤ i → lexB (lstP zs (L[j]?.getD [])) (bestG zs L i).1 = false
  | 0, j, h => by obtain rfl : j = 0 := by omega
                  exact lexB_self _
  | i + 1, j, h => by
    rw [bestG]
    by_cases e : j = i + 1
    · subst e
      split
      · exact lexB_self _
      · rename_i hh; simpa using hh
    · have := bestG_least zs L i j (by omega)
      split
      · rename_i hh; exact lexB_under hh this
      · exact this

end Go.Proofs.YtjclfpcnfmpjdaaDoor
