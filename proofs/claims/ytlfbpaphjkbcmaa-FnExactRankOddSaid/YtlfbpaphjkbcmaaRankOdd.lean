/- It is proved that the law FnExactRankOdd returns true for all arguments that can be read, and leaves them as they were. Conditions: none beyond the row's own. -/
import Derived.Test.YtlfbpaphjkbcmaaJ
import Derived.Test.YtlfbpaphjkbcmaaRaavxRankOd
import Derived.Test.YtlfbpaphjkbcmaaRaawxRankOd
namespace Go.Proofs.Ytlfbpaphjkbcmaa
open Go.ChangeShapes Go.WideShapes Go.ChangeAt Go.RowKit Go.Joins
open Go.ChangeMaps (open_string shut_string)

namespace lawRankOdd

set_option maxRecDepth 100000 in
set_option maxHeartbeats 800000 in
theorem big (m : Int) (a : Option Addr) (n cap : Nat) (w : World) (hn : n ≤ 9223372036854775807) (h : 1048576 < n) :
    Calls Try.prog 6 #[.agg #[.int .i64 m, .slice a n cap]] w fun e w' => e = .returned (.bool true) ∧ Below w.heap.size w w' := by
  go_enter Try.func6, Try.ntmps6
  go_wp2_with (go_at_call 8; refine (szFamily_any _ _ _ _ _ _ hn (by omega) (by omega)).mono ?_; rintro e w1 ⟨rfl, hb⟩; rw [if_pos (by omega)])
  go_ret
  exact ⟨rfl, (below1 _ _).trans (hb.mono (by simp))⟩

theorem walk (m : Int) (a : Option Addr) (cap : Nat) (zs : List Int) (w : World) (hz : Ints w w.heap.size a zs) (hl : zs.length ≤ maxLen) :
    Calls Try.prog 6 #[.agg #[.int .i64 m, .slice a zs.length cap]] w fun e w' => e = .returned (.bool true) ∧ Below w.heap.size w w' := by
  by_cases h : zs.length ≤ 1048576
  · exact walkRankOdd m a cap zs _ w hz h (fun a cap W hz => specRankOdd_any m a cap zs W hz h) (fun a cap W hz _ => implRankOdd_any m a cap zs W hz h)
  · exact big m a zs.length cap w (by simp only [maxLen] at hl; omega) (by omega)

set_option maxRecDepth 100000 in
theorem lifted (os : Os) (started : os.Started) (H : Type) (enc : TypeId × Value → H) :
    ReturnsInHanded {} Try.checked os 6 .any (Rows.fnExactRankOddSpec.pre6 enc Try.prog Try.f6 Rows.fnExactRankOddRow.domain false) (Rows.fnExactRankOddSpec.post enc Try.prog Try.f6 false true false false) := by
  refine returnsInHanded_of_change (C := Try.checked) Try.own started (by kernel_rfl) Try.func6
    (ChangeSpec.witness6 (enc := enc) (C := Try.checked) false ⟨#[], #[.agg #[.int .i64 0, .slice none 0 0]], []⟩ 8 (by kernel_rfl) (by kernel_rfl) (by kernel_rfl) (by kernel_rfl)) ?_
  intro W base args ds gs before hval0 hW hcnd _
  have hval : ∀ (j : Nat) t v, Try.f6.params[j]? = some t → args[j]? = some v → Value.okWide Try.prog W .any base t v := hval0
  have hW' := hW
  obtain ⟨p, q, hA0, hV, rfl, hfz, hnd⟩ := hW
  have hA : DataW.TrodAll enc Try.prog W 0 (fun _ => true) true Try.f6.params.toList args.toList ds p := hA0
  rw [Try.params6] at hA hval
  obtain ⟨v0, d0, rfl, rfl, h0⟩ := trodAll_one hA
  obtain ⟨rfl, rfl⟩ := trodVars_none hV
  have k0 := h0
  have lt0 : ∀ x ∈ p, x.block < W.heap.size := by obtain ⟨m, hm⟩ := k0; exact DataW.trod_lt m _ _ _ hm
  obtain ⟨m, a, cap, zs, rfl, hlen, hz⟩ := open_family (hval 0 24 v0 rfl rfl) h0
  clear hA0 hval0
  refine (walk m a cap zs W hz hlen).mono fun e W' ⟨he, bel⟩ => ?_
  subst he
  exact ⟨_, rfl, _, _, _, [], _, [], hW', trodAll_mk1 (shut_bool Try.underlying4 _), (trodAll_mk1 (Below.trod Try.laidOut (by kernel_rfl) (of_decide_eq_true (by kernel_rfl)) k0 bel lt0)), rfl, bel.frame _, fun h => by cases h⟩

theorem over : Rows.fnExactRankOddRow.holds Try.pinned (OpenSpec.ofChange Rows.fnExactRankOddSpec) :=
  OpenClaim.holds_of_wide 6 Try.f6 rfl rfl rfl rfl rfl rfl rfl ⟨rfl, rfl, rfl, rfl, rfl⟩ rfl rfl rfl rfl rfl (by kernel_rfl) Try.func6 (by kernel_rfl)
    (of_decide_eq_true (by kernel_rfl)) (by unfold Func.isWrapper; first | (rw [if_pos (by decide +kernel)]; kernel_rfl) | (rw [if_neg (by decide +kernel)]; exact ⟨rfl, rfl⟩))
    (fun os started H enc _ => lifted os started H enc)

theorem proved : Rows.FnExactRankOddSaid := over
end lawRankOdd
end Go.Proofs.Ytlfbpaphjkbcmaa
