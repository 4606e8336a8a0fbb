/- It is proved that the least of the map's keys is the least list of all names, and how many keys there are at most; conditions: those of each statement. -/
import Derived.RowKit
import Derived.Laws.CopyRow
import Derived.Lib.SlBuf
import Derived.Deep.QuietTactic
import Derived.RangeFuncNested
import Derived.RangeFuncBound
import Derived.RangeFuncCalls
import Derived.RangeFuncLeaves
import Derived.RangeFuncBox
import Derived.RangeFuncWrites
import Derived.StillTailTactics
import Derived.Maps.OwnIn
import Derived.Maps.Ext
import Derived.DeepKeys4
import Derived.MapKept
import Derived.Test.YtjclfpcnfmpjdaaDoorRows
import Derived.WalkKit
import Derived.WalkSpells
import Derived.ProofKit
import Derived.OpenShut
import Derived.ShutString
import Derived.ChangeOld
import Derived.Below
import Derived.Deep.RegionHeld3
import Derived.BigQuiet
import Derived.Lib.Hide
import Derived.Lib.SmallJoins
import Derived.Outline
import Derived.Laws.MakeOwn
import Derived.Laws.OwnMore
import Derived.IntWalk
import Derived.Maps.AppendAt
import Derived.Sort.MapsRangeIn
import Derived.Lib.AppendZeros
import Derived.Deep.AppendLies
import Derived.OwnWalk
import Derived.Lib.SlicesCompact
import Derived.Lib.OwnBridge
import Derived.OrdersIn
import Derived.TacticsIn
import Derived.Shelf.Sort.Plain
import Derived.Shelf.Slices.In.SortNone
import Derived.Shelf.Slices.CompactI
import Derived.Ground.Names2Prog
import Derived.Shelf.Abstract
import Derived.Shelf.RegionOpen
import Derived.OwnWalkIn
import Derived.TacticsInMore
import Derived.LoopNIn
import Derived.LoopIn
import Derived.StillTail
import Derived.StillTactics
import Derived.Shelf.Spec.TrailingZeros
import Derived.Test.YtjclfpcnfmpjdaaDoorMsa
import Derived.Test.YtjclfpcnfmpjdaaDoorMsb
import Derived.Test.YtjclfpcnfmpjdaaDoorBq
import Derived.Test.YtjclfpcnfmpjdaaDoorBs
namespace Go.Proofs.YtjclfpcnfmpjdaaDoor
open Go.RowKit Go.Shelf Go.Maps

theorem min_best {D : DataW Unit} {zs : List Int} {L : List (List Nat)} {ys : List KeyS} (hTab : TabD zs D L) (hL : 0 < L.length) (hwf : ∀ p ∈ L, WfK (keyL zs (nI p))) (hC : CollE D (valsK ys)) :
    0 < ys.length ∧ minG (valsK ys) (ys.length - 1) = keyL zs (nI (bestG zs L (L.length - 1)).2) := by
  have hyl : (valsK ys).length = ys.length := by simp [valsK]
  have hin : ∀ p ∈ L, keyL zs (nI p) ∈ valsK ys := fun p hp => (hC.2.2 _ (hwf p hp)).2 ((hTab.has_ _).2 ⟨p, hp, rfl⟩)
  have hbL : (bestG zs L (L.length - 1)).2 ∈ L := bestG_in zs L _ (by omega)
  have hb := hin _ hbL
  have h0 : 0 < ys.length := by rw [← hyl]; exact List.length_pos_of_mem hb
  refine ⟨h0, ?_⟩
  have hm := minG_mem (valsK ys) (ys.length - 1) (by rw [hyl]; omega)
  have hmw := hC.2.1 _ hm
  obtain ⟨p, hp, hpe⟩ := (hTab.has_ _).1 ((hC.2.2 _ hmw).1 hm)
  have hme := keyLit_inj hmw (hwf p hp) hpe
  apply lexB_eq
  · rw [hme]
    unfold keyL
    rw [lexB_app _ _ _ (by simp)]
    have e := bestG_of zs L (L.length - 1)
    unfold lstP at e
    rw [← e]
    obtain ⟨j, hj, hje⟩ := List.getElem_of_mem hp
    have := bestG_least zs L (L.length - 1) j (by omega)
    rw [List.getElem?_eq_getElem hj, Option.getD_some, hje] at this
    exact this
  · obtain ⟨j, hj, hje⟩ := List.getElem_of_mem hb
    have := minG_least (valsK ys) (ys.length - 1) j (by omega)
    rw [List.getElem?_eq_getElem hj, Option.getD_some, hje] at this
    exact this

theorem nodup_le {α : Type} : ∀ {l m : List α}, l.Nodup → (∀ x ∈ l, x ∈ m) → l.length ≤ m.length
  | [], _, _, _ => by simp
  | x :: l, m, hn, h => by
    classical
    have hx := h x (by simp)
    have hn' := List.nodup_cons.1 hn
    have h1 := nodup_le (l := l) (m := m.erase x) hn'.2 (fun y hy => (List.mem_erase_of_ne (fun (e : y = x) => hn'.1 (by rw [← e]; exact hy))).2 (h y (by simp [hy])))
    rw [List.length_erase_of_mem hx] at h1
    have := List.length_pos_of_mem hx
    simp; omega

theorem coll_len {D : DataW Unit} {zs : List Int} {L : List (List Nat)} {ys : List KeyS} (hTab : TabD zs D L) (hwf : ∀ p ∈ L, WfK (keyL zs (nI p))) (hC : CollE D (valsK ys)) : ys.length ≤ L.length := by
  have h := nodup_le (m := L.map fun p => keyL zs (nI p)) hC.1 (fun K hK => by
    have hw := hC.2.1 K hK
    obtain ⟨p, hp, e⟩ := (hTab.has_ _).1 ((hC.2.2 K hw).1 hK)
    exact List.mem_map.2 ⟨p, hp, (keyLit_inj hw (hwf p hp) e).symm⟩)
  simpa [valsK] using h

theorem tab_size {w : World} {b n : Nat} {D : DataW Unit} {zs : List Int} {L : List (List Nat)} (hown : OwnT w b n D) (hTab : TabD zs D L) : Maps.size D ≤ L.length := by
  obtain ⟨es, rfl, hpw, hk⟩ := hown.entries keyLaw
  have h := nodup_le (l := es.map fun p => p.1) (m := L.map fun p => keyLit (keyL zs (nI p))) (List.pairwise_map.2 hpw) (fun l hl => by
    obtain ⟨p, hp, rfl⟩ := List.mem_map.1 hl
    have hh : Maps.has (.map es) p.1 = true := by
      rw [has_eq, List.any_eq_true]
      exact ⟨p, hp, WideAt.sameKey_self (hk p hp)⟩
    obtain ⟨q, hq, e⟩ := (hTab.has_ _).1 hh
    exact List.mem_map.2 ⟨q, hq, e.symm⟩)
  rw [size_eq]
  simpa using h

end Go.Proofs.YtjclfpcnfmpjdaaDoor
