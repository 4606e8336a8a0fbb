/- It is proved that the law FnExactFamilyNamed returns true for all arguments that can be read, and leaves them as they were. Conditions: none beyond the row's own (the library's two listed tables lie as the program's text lays them). -/
import Derived.Test.YticgojhljmgplaaDoorNg
import Derived.Test.YticgojhljmgplaaDoorNi
import Derived.Test.YticgojhljmgplaaDoorW
import Derived.Test.YticgojhljmgplaaDoorTie
import Derived.Test.YticgojhljmgplaaDoorCards
namespace Go.Proofs.YticgojhljmgplaaDoor
open Go.ChangeShapes Go.WideShapes Go.ChangeAt Go.RowKit Go.Joins
open Go.ChangeMaps (open_string shut_string)

namespace lawNamed

theorem open_list {H : Type} {enc : TypeId × Value → H} {W : World} {base : Nat} {v : Value} {d : DataW H} {p : List MemPlace}
    (hv : Value.okWide Tryd.prog W .any base 23 v) (h : DataW.Trod enc Tryd.prog W 0 (fun _ => true) true 23 v d p) :
    ∃ a cap, ∃ zs : List Int, v = .slice a zs.length cap ∧ zs.length ≤ maxLen ∧ Ints W W.heap.size a zs := by
  obtain ⟨a, n, cap, rfl⟩ := okWide_slice Tryd.underlying23 hv
  obtain ⟨fuel, hf⟩ := h
  rcases open_ints Tryd.underlying23 Tryd.underlying3 Tryd.cells3 hf with ⟨hcs, _⟩ | ⟨x, l, c, zs, hcs, _, hl, hm, hz, hx, hcell, hwz⟩
  · simp [Value.cells] at hcs
    obtain ⟨rfl, rfl, rfl⟩ := hcs
    exact ⟨none, 0, [], rfl, by simp [maxLen], .inl rfl⟩
  · simp [Value.cells] at hcs
    obtain ⟨rfl, rfl, rfl⟩ := hcs
    have hlen : (zs.take n).length = n := by rw [List.length_take]; simp at hz; omega
    exact ⟨some x, cap, zs.take n, by rw [hlen], by rw [hlen]; omega, ints_of_row hl (by simpa using hz) hcell⟩

set_option maxRecDepth 100000 in
set_option maxHeartbeats 800000 in
theorem big1 (m : Int) (a b : Option Addr) (n cap k d : Nat) (w : World) (hk : k ≤ 9223372036854775807) (h : 1048576 < k) :
    Calls Tryd.prog 6 #[.agg #[.int .i64 m, .slice a n cap], .slice b k d] w fun e w' => e = .returned (.bool true) ∧ Below w.heap.size w w' := by
  go_enter Tryd.func6, Tryd.ntmps6
  go_wp2
  go_ret
  exact ⟨rfl, below1 _ _⟩

set_option maxRecDepth 100000 in
set_option maxHeartbeats 800000 in
theorem big2 (m : Int) (a b : Option Addr) (n cap k d : Nat) (w : World) (hn : n ≤ 9223372036854775807) (h : 1048576 < n) (hk : k ≤ 1048576) :
    Calls Tryd.prog 6 #[.agg #[.int .i64 m, .slice a n cap], .slice b k d] w fun e w' => e = .returned (.bool true) ∧ Below w.heap.size w w' := by
  go_enter Tryd.func6, Tryd.ntmps6
  go_wp2_with (go_at_call 12; refine (szFamily_any _ _ _ _ _ _ hn (by omega) (by omega)).mono ?_; rintro e w1 ⟨rfl, hb⟩; rw [if_pos (by omega)])
  go_ret
  exact ⟨rfl, (below1 _ _).trans (hb.mono (by simp))⟩

theorem walk (m : Int) (a b : Option Addr) (cap d : Nat) (zs ps : List Int) (w : World) (hz : Ints w w.heap.size a zs) (hb : Ints w w.heap.size b ps) (hT : Tab w) (hl : zs.length ≤ maxLen) (hlp : ps.length ≤ maxLen) :
    Calls Tryd.prog 6 #[.agg #[.int .i64 m, .slice a zs.length cap], .slice b ps.length d] w fun e w' => e = .returned (.bool true) ∧ Below w.heap.size w w' := by
  by_cases hp : ps.length ≤ 1048576
  · by_cases h : zs.length ≤ 1048576
    · exact walkNamed m a b cap d zs ps _ _ _ w hz hb h hp (namZ_len m zs ps h) (fun a cap b d W hz hb => specNamed_any m a b cap d zs ps W hz hb h hp) hT (fun a cap b d W hz hb hT => implNamed_any m a b cap d zs ps W hz hb h hp hT)
    · exact big2 m a b zs.length cap ps.length d w (by simp only [maxLen] at hl; omega) (by omega) hp
  · exact big1 m a b zs.length cap ps.length d w (by simp only [maxLen] at hlp; omega) (by omega)

set_option maxRecDepth 100000 in
theorem lifted (os : Os) (started : os.Started) (H : Type) (enc : TypeId × Value → H) :
    ReturnsInHanded {} Tryd.checked os 6 .any (fun w args => (Rows.fnExactFamilyNamedSpec.pre enc Tryd.prog Tryd.f6 [] false w args ∧ laidMetH Tryd.prog laidL w) ∧ sizedMet enc Tryd.prog Tryd.f6 (OpenSpec.ofChange Rows.fnExactFamilyNamedSpec) false w args)
      (Rows.fnExactFamilyNamedSpec.post enc Tryd.prog Tryd.f6 false true false false) := by
  refine returnsInHanded_of_change_and (C := Tryd.checked) (X := fun w _ => laidMetH Tryd.prog laidL w) (fun _ _ _ hh h => h.of_heap hh) Tryd.own started (by kernel_rfl) Tryd.func6
    (ChangeSpec.witness_shaped (enc := enc) (C := Tryd.checked) (os := os) (X := fun w _ => laidMetH Tryd.prog laidL w) false (World.doorLaid Tryd.prog 19 os) #[.agg #[.int .i64 0, .slice none 0 0], .slice none 0 0] 8 rfl (World.shaped_of_RefB (by kernel_rfl) (by kernel_rfl)) (by kernel_rfl) (by kernel_rfl) (by kernel_rfl) (door_met os _)) ?_
  intro W base args ds gs before hval0 hW _ _ hL _
  have hval : ∀ (j : Nat) t v, Tryd.f6.params[j]? = some t → args[j]? = some v → Value.okWide Tryd.prog W .any base t v := hval0
  have hW' := hW
  obtain ⟨p, q, hA0, hV, rfl, hfz, hnd⟩ := hW
  have hA : DataW.TrodAll enc Tryd.prog W 0 (fun _ => true) true Tryd.f6.params.toList args.toList ds p := hA0
  rw [Tryd.params6] at hA hval
  obtain ⟨v0, v1, d0, d1, p0, p1, rfl, rfl, rfl, h0, h1⟩ := trodAll_two hA
  obtain ⟨rfl, rfl⟩ := trodVars_none hV
  have k0 := h0
  have k1 := h1
  have lt0 : ∀ x ∈ p0, x.block < W.heap.size := by obtain ⟨m, hm⟩ := k0; exact DataW.trod_lt m _ _ _ hm
  have lt1 : ∀ x ∈ p1, x.block < W.heap.size := by obtain ⟨m, hm⟩ := k1; exact DataW.trod_lt m _ _ _ hm
  obtain ⟨m, a, cap, zs, rfl, hlen, hz⟩ := open_family (hval 0 31 v0 rfl rfl) h0
  obtain ⟨b, d, ps, rfl, hlenp, hb⟩ := open_list (hval 1 23 v1 rfl rfl) h1
  clear hA0 hval0
  refine (walk m a b cap d zs ps W hz hb (tab_of_laid hL) hlen hlenp).mono fun e W' ⟨he, bel⟩ => ?_
  subst he
  exact ⟨_, rfl, _, _, _, [], _, [], hW', trodAll_mk1 (shut_bool Tryd.underlying4 _), (trodAll_mk2 (Below.trod Tryd.laidOut (by kernel_rfl) (of_decide_eq_true (by kernel_rfl)) k0 bel lt0) (Below.trod Tryd.laidOut (by kernel_rfl) (of_decide_eq_true (by kernel_rfl)) k1 bel lt1)), rfl, bel.frame _, fun h => by cases h⟩

theorem over : Rows.FnExactFamilyNamedSaid :=
  OpenClaim.holds_of_wide 6 Tryd.f6 rfl rfl rfl rfl rfl rfl rfl ⟨rfl, rfl, rfl, rfl, rfl⟩ rfl rfl rfl rfl rfl (by kernel_rfl) Tryd.func6 (by kernel_rfl)
    (of_decide_eq_true (by kernel_rfl)) (by unfold Func.isWrapper; first | (rw [if_pos (by decide +kernel)]; kernel_rfl) | (rw [if_neg (by decide +kernel)]; exact ⟨rfl, rfl⟩))
    (fun os started H enc _ => lifted os started H enc)

theorem proved : Rows.FnExactFamilyNamedCardSaid :=
  Claim7.holds_tied_plain_at .later [] [.data, .data] true (true, "cf1d8003702e5bd9c4233bee637092a6179bd5ae9eb2be89f3af892e0dce114c") false
    over (fun _ h => by cases h) (by kernel_rfl) (fun _ h => by cases h) fnExactFamilyNamed_row_tie rfl ⟨rfl, rfl⟩ (by kernel_rfl) rfl
    (fun f fn hf hfn => by
      obtain rfl : f = 6 := Option.some.inj ((show Tryd.prog.funcNamed "loop.example/clubsandmembers/laws.FnExactFamilyNamed" = some 6 by kernel_rfl).symm.trans hf) |>.symm
      obtain rfl : fn = Tryd.f6 := (Option.some.inj (Tryd.func6.symm.trans hfn)).symm
      exact ⟨by kernel_rfl, fun j t ht => by
        rw [Tryd.params6] at ht
        have hm : t ∈ [31, 23] := by simpa using Array.mem_of_getElem? ht
        have hall : ([31, 23].all fun u => !Tryd.prog.wantsStandIn u) = true := by kernel_rfl
        exact (show Tryd.prog.wantsStandIn t = false by simpa using List.all_eq_true.1 hall t hm)⟩)
    (by kernel_rfl)
end lawNamed
end Go.Proofs.YticgojhljmgplaaDoor
