/- It is proved that a region that draws its order may be walked one operation at a time where a relation of what has come is kept; conditions: those of each statement. -/
import Derived.OrdersIn
import Derived.TacticsIn
import Derived.Test.YtijpgbkjgjpmmaaDoorMrai
namespace Go
section
variable {F : Fence} {n : Nat} {P : Program} {ops : Array Oper} {Q : Exit → Act → World → Prop} {md : Region.Mode}

theorem wpAnyIn_rel {R : Array Bool → Act → World → Prop} (hends : Region.endsB md ops = true)
    (hstep : ∀ listed a w i, listed.size = ops.size → i ∈ Region.ready md ops listed → R listed a w → wpOpIn F n P ops Q i (fun a' w' => R (listed.setIfInBounds i true) a' w') a w)
    (hend : ∀ listed a w, listed.size = ops.size → (listed.toList.all id) = true → R listed a w → Q .normal a w) :
    ∀ fuel listed a w, listed.size = ops.size → listed.toList.count false ≤ fuel → R listed a w → wpAnyIn F n P md ops Q fuel listed a w
  | 0, listed, a, w, hs, hc, hS => by
    have hall : listed.toList.all id = true := by
      rw [List.all_eq_true]
      intro x hx
      cases x
      · have := List.count_pos_iff.2 hx; omega
      · rfl
    refine ⟨?_, hend listed a w hs hall hS⟩
    unfold Region.ready
    rw [List.filter_eq_nil_iff]
    intro i hi
    rw [List.mem_range] at hi
    have hi' : i < listed.size := by omega
    have : listed.getD i true = true := by
      have h1 := List.all_eq_true.1 hall listed[i] (by simp)
      simp only [id] at h1
      simp [Array.getD, hi', h1]
    simp [this]
  | fuel + 1, listed, a, w, hs, hc, hS => by
    refine ⟨fun h0 => hend listed a w hs ?_ hS, fun i hi => ?_⟩
    · have h1 := List.all_eq_true.1 hends listed.toList (by have := mem_masks listed.toList; rwa [Array.length_toList, hs] at this)
      simpa [h0] using h1
    · refine wpOpIn_mono ?_ (hstep listed a w i hs hi hS)
      intro a' w' hS'
      refine wpAnyIn_rel hends hstep hend fuel _ a' w' (by simpa using hs) ?_ hS'
      have hu : listed.toList[i]? = some false := by
        unfold Region.ready at hi
        rw [List.mem_filter, Bool.and_eq_true, List.mem_range] at hi
        have hi' : i < listed.size := by omega
        have := hi.2.1
        simp [Array.getD, hi'] at this
        simp [hi', this]
      have := count_set listed.toList i hu
      simp only [Array.toList_setIfInBounds]
      omega

theorem wpIn_region_rel {R : Array Bool → Act → World → Prop} {id' : Nat} {a : Act} {w : World} (hm : P.follows .mixedOrders = true) (hends : Region.endsB .any ops = true)
    (hS : R (Array.replicate ops.size false) a { w with drawn := w.drawn + 1 })
    (hstep : ∀ listed a w i, listed.size = ops.size → i ∈ Region.ready .any ops listed → R listed a w → wpOpIn F n P ops Q i (fun a' w' => R (listed.setIfInBounds i true) a' w') a w)
    (hend : ∀ listed a w, listed.size = ops.size → (listed.toList.all id) = true → R listed a w → Q .normal a w) : (Code.region id' ops true).wpIn F n P Q a w :=
  wpIn_region_any hm (wpAnyIn_rel hends hstep hend ops.size _ _ _ (by simp) (by simp) hS)

end
end Go
namespace Go.Proofs.YtijpgbkjgjpmmaaDoor
end Go.Proofs.YtijpgbkjgjpmmaaDoor
