/- It is proved that the law FnExactTableMany returns true for all arguments that can be read, and leaves them as they were. Conditions: none beyond the row's own (the library's two listed tables lie as the program's text lays them). -/
import Derived.Test.YtbiggilheicfjaaDoorMta
import Derived.Test.YtbiggilheicfjaaDoorJ
import Derived.Test.YtbiggilheicfjaaDoorEf
import Derived.Test.YtbiggilheicfjaaDoorEv
import Derived.Test.YtbiggilheicfjaaDoorW
import Derived.Test.YtbiggilheicfjaaDoorTie
import Derived.Test.YtbiggilheicfjaaDoorCards
namespace Go.Proofs.YtbiggilheicfjaaDoor
open Go.ChangeShapes Go.WideShapes Go.ChangeAt Go.RowKit Go.Joins
open Go.ChangeMaps (open_string shut_string)

namespace lawTableMany

set_option maxRecDepth 100000 in
set_option maxHeartbeats 800000 in
theorem big1 (a b : Option Addr) (n cap k d : Nat) (w : World) (hn : n ≤ 9223372036854775807) (h : 1048576 < n) :
    Calls Tryd.prog 9 #[.slice a n cap, .slice b k d] w fun e w' => e = .returned (.bool true) ∧ Below w.heap.size w w' := by
  go_enter Tryd.func9, Tryd.ntmps9
  go_wp2
  go_ret
  exact ⟨rfl, Below.refl _ _⟩

set_option maxRecDepth 100000 in
set_option maxHeartbeats 800000 in
theorem big2 (a b : Option Addr) (n cap k d : Nat) (w : World) (hk : k ≤ 9223372036854775807) (h : 1048576 < k) (hn : n ≤ 1048576) :
    Calls Tryd.prog 9 #[.slice a n cap, .slice b k d] w fun e w' => e = .returned (.bool true) ∧ Below w.heap.size w w' := by
  go_enter Tryd.func9, Tryd.ntmps9
  go_wp2
  go_ret
  exact ⟨rfl, Below.refl _ _⟩

theorem walk (a b : Option Addr) (cap d : Nat) (zs ps : List Int) (w : World) (hz : Ints w w.heap.size a zs) (hb : Ints w w.heap.size b ps) (hT : Tab w) (hl : zs.length ≤ maxLen) (hlp : ps.length ≤ maxLen) :
    Calls Tryd.prog 9 #[.slice a zs.length cap, .slice b ps.length d] w fun e w' => e = .returned (.bool true) ∧ Below w.heap.size w w' := by
  by_cases h : zs.length ≤ 1048576
  · by_cases hp : ps.length ≤ 1048576
    · exact walkTableMany a b cap d zs ps (manyZ zs ps) (tabIn zs ps) w hz hb h hp (fun a cap b d W hz hb hc => specMany_any a b cap d zs ps W hz hb hc h hp) hT (fun a cap b d W hz hb hT => implMany_any a b cap d zs ps W hz hb hT h hp)
    · exact big2 a b zs.length cap ps.length d w (by simp only [maxLen] at hlp; omega) (by omega) h
  · exact big1 a b zs.length cap ps.length d w (by simp only [maxLen] at hl; omega) (by omega)

set_option maxRecDepth 100000 in
theorem lifted (os : Os) (started : os.Started) (H : Type) (enc : TypeId × Value → H) :
    ReturnsInHanded {} Tryd.checked os 9 .any (fun w args => (Rows.fnExactTableManySpec.pre enc Tryd.prog Tryd.f9 [] false w args ∧ laidMetH Tryd.prog laidL w) ∧ sizedMet enc Tryd.prog Tryd.f9 (OpenSpec.ofChange Rows.fnExactTableManySpec) false w args)
      (Rows.fnExactTableManySpec.post enc Tryd.prog Tryd.f9 false true false false) := by
  refine returnsInHanded_of_change_and (C := Tryd.checked) (X := fun w _ => laidMetH Tryd.prog laidL w) (fun _ _ _ hh h => h.of_heap hh) Tryd.own started (by kernel_rfl) Tryd.func9
    (ChangeSpec.witness_shaped (enc := enc) (C := Tryd.checked) (os := os) (X := fun w _ => laidMetH Tryd.prog laidL w) false (World.doorLaid Tryd.prog 41 os) #[.slice none 0 0, .slice none 0 0] 8 rfl (World.shaped_of_RefB (by kernel_rfl) (by kernel_rfl)) (by kernel_rfl) (by kernel_rfl) (by kernel_rfl) (door_met os _)) ?_
  intro W base args ds gs before hval0 hW _ _ hL _
  have hval : ∀ (j : Nat) t v, Tryd.f9.params[j]? = some t → args[j]? = some v → Value.okWide Tryd.prog W .any base t v := hval0
  have hW' := hW
  obtain ⟨p, q, hA0, hV, rfl, hfz, hnd⟩ := hW
  have hA : DataW.TrodAll enc Tryd.prog W 0 (fun _ => true) true Tryd.f9.params.toList args.toList ds p := hA0
  rw [Tryd.params9] at hA hval
  obtain ⟨v0, v1, d0, d1, p0, p1, rfl, rfl, rfl, h0, h1⟩ := trodAll_two hA
  obtain ⟨rfl, rfl⟩ := trodVars_none hV
  have k0 := h0
  have k1 := h1
  have lt0 : ∀ x ∈ p0, x.block < W.heap.size := by obtain ⟨m, hm⟩ := k0; exact DataW.trod_lt m _ _ _ hm
  have lt1 : ∀ x ∈ p1, x.block < W.heap.size := by obtain ⟨m, hm⟩ := k1; exact DataW.trod_lt m _ _ _ hm
  obtain ⟨a, cap, zs, rfl, hlen, hz⟩ := open_ilist (hval 0 23 v0 rfl rfl) h0
  obtain ⟨b, d, ps, rfl, hlenp, hb⟩ := open_ilist (hval 1 23 v1 rfl rfl) h1
  clear hA0 hval0
  refine (walk a b cap d zs ps W hz hb (tab_of_laid hL) hlen hlenp).mono fun e W' ⟨he, bel⟩ => ?_
  subst he
  exact ⟨_, rfl, _, _, _, [], _, [], hW', trodAll_mk1 (shut_bool Tryd.underlying4 _), (trodAll_mk2 (Below.trod Tryd.laidOut (by kernel_rfl) (of_decide_eq_true (by kernel_rfl)) k0 bel lt0) (Below.trod Tryd.laidOut (by kernel_rfl) (of_decide_eq_true (by kernel_rfl)) k1 bel lt1)), rfl, bel.frame _, fun h => by cases h⟩

theorem over : Rows.FnExactTableManySaid :=
  OpenClaim.holds_of_wide 9 Tryd.f9 rfl rfl rfl rfl rfl rfl rfl ⟨rfl, rfl, rfl, rfl, rfl⟩ rfl rfl rfl rfl rfl (by kernel_rfl) Tryd.func9 (by kernel_rfl)
    (of_decide_eq_true (by kernel_rfl)) (by unfold Func.isWrapper; first | (rw [if_pos (by decide +kernel)]; kernel_rfl) | (rw [if_neg (by decide +kernel)]; exact ⟨rfl, rfl⟩))
    (fun os started H enc _ => lifted os started H enc)

theorem proved : Rows.FnExactTableManyCardSaid :=
  Claim7.holds_tied_plain_at .later [] [.data, .data] true (true, "5cbb7dad93820490b0de35cb492ea5e4f2f75d71170f17569b6d1d66608e87a2") false
    over (fun _ h => by cases h) (by kernel_rfl) (fun _ h => by cases h) fnExactTableMany_row_tie rfl ⟨rfl, rfl⟩ (by kernel_rfl) rfl
    (fun f fn hf hfn => by
      obtain rfl : f = 9 := Option.some.inj ((show Tryd.prog.funcNamed "loop.example/clubsandmembers/laws.FnExactTableMany" = some 9 by kernel_rfl).symm.trans hf) |>.symm
      obtain rfl : fn = Tryd.f9 := (Option.some.inj (Tryd.func9.symm.trans hfn)).symm
      exact ⟨by kernel_rfl, fun j t ht => by
        rw [Tryd.params9] at ht
        have hm : t ∈ [23, 23] := by simpa using Array.mem_of_getElem? ht
        have hall : ([23, 23].all fun u => !Tryd.prog.wantsStandIn u) = true := by kernel_rfl
        exact (show Tryd.prog.wantsStandIn t = false by simpa using List.all_eq_true.1 hall t hm)⟩)
    (by kernel_rfl)
end lawTableMany
end Go.Proofs.YtbiggilheicfjaaDoor
