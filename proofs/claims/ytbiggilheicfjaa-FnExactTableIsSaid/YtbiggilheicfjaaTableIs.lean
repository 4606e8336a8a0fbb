/- It is proved that the law FnExactTableIs returns true for all arguments that can be read, and leaves them as they were. Conditions: none beyond the row's own. -/
import Derived.Test.YtbiggilheicfjaaJ
import Derived.Test.YtbiggilheicfjaaEf
import Derived.Test.YtbiggilheicfjaaEi
import Derived.Test.YtbiggilheicfjaaEj
namespace Go.Proofs.Ytbiggilheicfjaa
open Go.ChangeShapes Go.WideShapes Go.ChangeAt Go.RowKit Go.Joins
open Go.ChangeMaps (open_string shut_string)

namespace lawTableIs

set_option maxRecDepth 100000 in
set_option maxHeartbeats 800000 in
theorem big1 (a b : Option Addr) (n cap k d : Nat) (w : World) (hn : n ≤ 9223372036854775807) (h : 1048576 < n) :
    Calls Try.prog 3 #[.slice a n cap, .slice b k d] w fun e w' => e = .returned (.bool true) ∧ Below w.heap.size w w' := by
  go_enter Try.func3, Try.ntmps3
  go_wp2
  go_ret
  exact ⟨rfl, Below.refl _ _⟩

set_option maxRecDepth 100000 in
set_option maxHeartbeats 800000 in
theorem big2 (a b : Option Addr) (n cap k d : Nat) (w : World) (hk : k ≤ 9223372036854775807) (h : 1048576 < k) (hn : n ≤ 1048576) :
    Calls Try.prog 3 #[.slice a n cap, .slice b k d] w fun e w' => e = .returned (.bool true) ∧ Below w.heap.size w w' := by
  go_enter Try.func3, Try.ntmps3
  go_wp2
  go_ret
  exact ⟨rfl, Below.refl _ _⟩

theorem walk (a b : Option Addr) (cap d : Nat) (zs ps : List Int) (w : World) (hz : Ints w w.heap.size a zs) (hb : Ints w w.heap.size b ps) (hl : zs.length ≤ maxLen) (hlp : ps.length ≤ maxLen) :
    Calls Try.prog 3 #[.slice a zs.length cap, .slice b ps.length d] w fun e w' => e = .returned (.bool true) ∧ Below w.heap.size w w' := by
  by_cases h : zs.length ≤ 1048576
  · by_cases hp : ps.length ≤ 1048576
    · exact walkTableIs a b cap d zs ps (tabIs zs ps) w hz hb h hp (fun a cap b d W hz hb => specIs_any a b cap d zs ps W hz hb h hp) (fun a cap b d W hz hb => implIs_any a b cap d zs ps W hz hb h hp)
    · exact big2 a b zs.length cap ps.length d w (by simp only [maxLen] at hlp; omega) (by omega) h
  · exact big1 a b zs.length cap ps.length d w (by simp only [maxLen] at hl; omega) (by omega)

set_option maxRecDepth 100000 in
theorem lifted (os : Os) (started : os.Started) (H : Type) (enc : TypeId × Value → H) :
    ReturnsInHanded {} Try.checked os 3 .any (Rows.fnExactTableIsSpec.pre6 enc Try.prog Try.f3 Rows.fnExactTableIsRow.domain false) (Rows.fnExactTableIsSpec.post enc Try.prog Try.f3 false true false false) := by
  refine returnsInHanded_of_change (C := Try.checked) Try.own started (by kernel_rfl) Try.func3
    (ChangeSpec.witness6 (enc := enc) (C := Try.checked) false ⟨#[], #[.slice none 0 0, .slice none 0 0], []⟩ 8 (by kernel_rfl) (by kernel_rfl) (by kernel_rfl) (by kernel_rfl)) ?_
  intro W base args ds gs before hval0 hW hcnd _
  have hval : ∀ (j : Nat) t v, Try.f3.params[j]? = some t → args[j]? = some v → Value.okWide Try.prog W .any base t v := hval0
  have hW' := hW
  obtain ⟨p, q, hA0, hV, rfl, hfz, hnd⟩ := hW
  have hA : DataW.TrodAll enc Try.prog W 0 (fun _ => true) true Try.f3.params.toList args.toList ds p := hA0
  rw [Try.params3] at hA hval
  obtain ⟨v0, v1, d0, d1, p0, p1, rfl, rfl, rfl, h0, h1⟩ := trodAll_two hA
  obtain ⟨rfl, rfl⟩ := trodVars_none hV
  have k0 := h0
  have k1 := h1
  have lt0 : ∀ x ∈ p0, x.block < W.heap.size := by obtain ⟨m, hm⟩ := k0; exact DataW.trod_lt m _ _ _ hm
  have lt1 : ∀ x ∈ p1, x.block < W.heap.size := by obtain ⟨m, hm⟩ := k1; exact DataW.trod_lt m _ _ _ hm
  obtain ⟨a, cap, zs, rfl, hlen, hz⟩ := open_ilist (hval 0 22 v0 rfl rfl) h0
  obtain ⟨b, d, ps, rfl, hlenp, hb⟩ := open_ilist (hval 1 22 v1 rfl rfl) h1
  clear hA0 hval0
  refine (walk a b cap d zs ps W hz hb hlen hlenp).mono fun e W' ⟨he, bel⟩ => ?_
  subst he
  exact ⟨_, rfl, _, _, _, [], _, [], hW', trodAll_mk1 (shut_bool Try.underlying4 _), (trodAll_mk2 (Below.trod Try.laidOut (by kernel_rfl) (of_decide_eq_true (by kernel_rfl)) k0 bel lt0) (Below.trod Try.laidOut (by kernel_rfl) (of_decide_eq_true (by kernel_rfl)) k1 bel lt1)), rfl, bel.frame _, fun h => by cases h⟩

theorem over : Rows.fnExactTableIsRow.holds Try.pinned (OpenSpec.ofChange Rows.fnExactTableIsSpec) :=
  OpenClaim.holds_of_wide 3 Try.f3 rfl rfl rfl rfl rfl rfl rfl ⟨rfl, rfl, rfl, rfl, rfl⟩ rfl rfl rfl rfl rfl (by kernel_rfl) Try.func3 (by kernel_rfl)
    (of_decide_eq_true (by kernel_rfl)) (by unfold Func.isWrapper; first | (rw [if_pos (by decide +kernel)]; kernel_rfl) | (rw [if_neg (by decide +kernel)]; exact ⟨rfl, rfl⟩))
    (fun os started H enc _ => lifted os started H enc)

theorem proved : Rows.FnExactTableIsSaid := over
end lawTableIs
end Go.Proofs.Ytbiggilheicfjaa
