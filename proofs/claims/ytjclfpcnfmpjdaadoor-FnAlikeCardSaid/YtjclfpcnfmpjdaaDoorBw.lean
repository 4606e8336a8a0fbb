/- It is proved which names a map keeps as the first of a list, and that those of the least list are the first names; conditions: those of each statement. -/
import Derived.RowKit
import Derived.Laws.CopyRow
import Derived.Lib.SlBuf
import Derived.Deep.QuietTactic
import Derived.RangeFuncNested
import Derived.RangeFuncBound
import Derived.RangeFuncCalls
import Derived.RangeFuncLeaves
import Derived.RangeFuncBox
import Derived.RangeFuncWrites
import Derived.StillTailTactics
import Derived.Maps.OwnIn
import Derived.Maps.Ext
import Derived.DeepKeys4
import Derived.MapKept
import Derived.Test.YtjclfpcnfmpjdaaDoorRows
import Derived.WalkKit
import Derived.WalkSpells
import Derived.ProofKit
import Derived.OpenShut
import Derived.ShutString
import Derived.ChangeOld
import Derived.Below
import Derived.Deep.RegionHeld3
import Derived.BigQuiet
import Derived.Lib.Hide
import Derived.Lib.SmallJoins
import Derived.Outline
import Derived.Laws.MakeOwn
import Derived.Laws.OwnMore
import Derived.IntWalk
import Derived.Maps.AppendAt
import Derived.Sort.MapsRangeIn
import Derived.Lib.AppendZeros
import Derived.Deep.AppendLies
import Derived.OwnWalk
import Derived.Lib.SlicesCompact
import Derived.Lib.OwnBridge
import Derived.OrdersIn
import Derived.TacticsIn
import Derived.Shelf.Sort.Plain
import Derived.Shelf.Slices.In.SortNone
import Derived.Shelf.Slices.CompactI
import Derived.Ground.Names2Prog
import Derived.Shelf.Abstract
import Derived.Shelf.RegionOpen
import Derived.OwnWalkIn
import Derived.TacticsInMore
import Derived.LoopNIn
import Derived.LoopIn
import Derived.StillTail
import Derived.StillTactics
import Derived.Shelf.Spec.TrailingZeros
import Derived.Test.YtjclfpcnfmpjdaaDoorMsa
import Derived.Test.YtjclfpcnfmpjdaaDoorMsb
import Derived.Test.YtjclfpcnfmpjdaaDoorBs
import Derived.Test.YtjclfpcnfmpjdaaDoorBv
namespace Go.Proofs.YtjclfpcnfmpjdaaDoor
open Go.RowKit Go.Shelf Go.Maps

theorem bestG_first (zs : List Int) (L : List (List Nat)) : ∀ i, i < L.length → ∃ t, t ≤ i ∧ (bestG zs L i).2 = L[t]?.getD [] ∧ ∀ j, j < t → lstP zs (L[j]?.getD []) ≠ (bestG zs L i).1
  | 0, _ => ⟨0, Nat.le_refl _, rfl, fun j h => by omega⟩
  | i + 1, h => by
    rw [bestG]
    split
    · rename_i hh
      refine ⟨i + 1, Nat.le_refl _, rfl, fun j hj e => ?_⟩
      have := bestG_least zs L i j (by omega)
      simp only at e
      rw [e, hh] at this
      cases this
    · obtain ⟨t, h1, h2, h3⟩ := bestG_first zs L i (by omega)
      exact ⟨t, by omega, h2, h3⟩

theorem keyL_lst (zs : List Int) (p : List Nat) : keyL zs (nI p) = lstP zs p ++ List.replicate (8 - zs.length) 0 := rfl
theorem first_filter (zs : List Int) (L : List (List Nat)) (hL : 0 < L.length) : ∃ rest, (L.filter fun p => keyL zs (nI p) == keyL zs (nI (bestG zs L (L.length - 1)).2)) = (bestG zs L (L.length - 1)).2 :: rest := by
  obtain ⟨t, h1, h2, h3⟩ := bestG_first zs L (L.length - 1) (by omega)
  have ht : t < L.length := by omega
  have e1 := bestG_of zs L (L.length - 1)
  rw [e1] at h3
  generalize (bestG zs L (L.length - 1)).2 = q at *
  rw [List.getElem?_eq_getElem ht, Option.getD_some] at h2
  have hsplit : L = L.take t ++ L[t] :: L.drop (t + 1) := by
    rw [List.getElem_cons_drop, List.take_append_drop]
  rw [hsplit, List.filter_append, List.filter_cons]
  have h4 : (L.take t).filter (fun p => keyL zs (nI p) == keyL zs (nI q)) = [] := by
    rw [List.filter_eq_nil_iff]
    intro p hp
    obtain ⟨j, hj, e⟩ := List.getElem_of_mem hp
    have hjt : j < t := by simp at hj; omega
    have hne := h3 j hjt
    rw [List.getElem?_eq_getElem (by omega), Option.getD_some] at hne
    rw [List.getElem_take] at e
    rw [e] at hne
    rw [keyL_lst, keyL_lst]
    simpa using hne
  rw [h4, ← h2]
  simp

theorem andL_keep {x ps : List Int} (hx : x.length = 13) (hp : ps.length ≤ 6) (h6 : x[6]?.getD 0 ≠ 0) (v : Nat) (hv : v < 6) : (andL x ps)[v]? = x[v]? := by
  rw [andL, andC_far _ _ _ _ (.inl (by omega)), andM, List.getElem?_set_ne (by omega), andF, if_neg h6]

theorem andL_first {ps : List Int} (hp : ps.length ≤ 6) (v : Nat) (hv : v < ps.length) : (andL zero13 ps)[v]?.getD 0 = ps[v]?.getD 0 := by
  rw [andL, andC_far _ _ _ _ (.inl (by omega)), andM, List.getElem?_set_ne (by omega), andF, if_pos (by simp [zero13]), List.getElem?_append_left hv]

theorem nm_keep (v : Nat) (hv : v < 6) : ∀ (L : List (List Nat)) (x : List Int), x.length = 13 → (0 : Int) < x[6]?.getD 0 → (∀ p ∈ L, p.length ≤ 6) → (L.foldl (fun (x : List Int) (p : List Nat) => andL x (nI p)) x)[v]? = (x[v]? : Option Int)
  | [], _, _, _, _ => rfl
  | p :: L, x, hx, h6, hp => by
    have h1 := hp p (by simp)
    rw [List.foldl_cons, nm_keep v hv L _ (by rw [andL, andC_len, andM_len (by rw [nI_len]; omega), hx]) (by rw [andL_six hx (by rw [nI_len]; exact h1)]; omega) (fun q hq => hp q (by simp [hq]))]
    exact andL_keep hx (by rw [nI_len]; exact h1) (by omega) v hv

theorem nm_firsts (m : Nat) (hm : m ≤ 6) (zs : List Int) (v : Nat) (hv : v < m) : (nmL zs (permsL m (List.range m)) (keyL zs (nI (firstN m zs))))[v]?.getD 0 = (nI (firstN m zs))[v]?.getD 0 := by
  have hL := lvlL_pos hm
  obtain ⟨rest, hr⟩ := first_filter zs (lvlL m m) hL
  have hall : ∀ p ∈ lvlL m m, p.length = m := fun p hp => lvlL_in hp
  have hin : ∀ p ∈ (bestG zs (lvlL m m) ((lvlL m m).length - 1)).2 :: rest, p.length = m := fun p hp => hall p (by rw [← hr] at hp; exact (List.mem_filter.1 hp).1)
  unfold firstN nmL
  rw [← lvlL_perms, hr, List.foldl_cons]
  have h0 := hin _ (List.mem_cons_self ..)
  have hz : zero13.length = 13 := rfl
  rw [nm_keep v (by omega) rest _ (by rw [andL, andC_len, andM_len (by rw [nI_len, h0]; simp [zero13]; omega)]; rfl) (by rw [andL_six hz (by rw [nI_len]; omega)]; simp [zero13]) (fun q hq => by rw [hin q (by simp [hq])]; exact hm)]
  exact andL_first (by rw [nI_len]; omega) v (by rw [nI_len]; omega)

end Go.Proofs.YtjclfpcnfmpjdaaDoor
