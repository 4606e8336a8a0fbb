/- It is proved that the law FnExactAlikeIn returns true for all arguments that can be read, and leaves them as they were. Conditions: none beyond the row's own (the library's two listed tables lie as the program's text lays them). -/
import Derived.Test.YtjclfpcnfmpjdaaDoorCf
import Derived.Test.YtjclfpcnfmpjdaaDoorCh
import Derived.Test.YtjclfpcnfmpjdaaDoorJ
import Derived.Test.YtjclfpcnfmpjdaaDoorW
import Derived.Test.YtjclfpcnfmpjdaaDoorTie
import Derived.Test.YtjclfpcnfmpjdaaDoorCards
namespace Go.Proofs.YtjclfpcnfmpjdaaDoor
open Go.ChangeShapes Go.WideShapes Go.ChangeAt Go.RowKit Go.Joins
open Go.ChangeMaps (open_string shut_string)

namespace lawAlikeIn

set_option maxRecDepth 100000 in
set_option maxHeartbeats 800000 in
theorem big1 (m k : Int) (a b : Option Addr) (n cap p d : Nat) (w : World) (hn : n ≤ 9223372036854775807) (h : 1048576 < n) :
    Calls Tryd.prog 8 #[.agg #[.int .i64 m, .slice a n cap], .agg #[.int .i64 k, .slice b p d]] w fun e w' => e = .returned (.bool true) ∧ Below w.heap.size w w' := by
  go_enter Tryd.func8, Tryd.ntmps8
  go_wp2_with (go_at_call 35; refine (szFamily_any _ _ _ _ _ _ hn (by omega) (by omega)).mono ?_; rintro e w1 ⟨rfl, hb⟩; rw [if_pos (by omega)])
  go_ret
  exact ⟨rfl, (below2 _ _ _).trans (hb.mono (by simp; omega))⟩

set_option maxRecDepth 100000 in
set_option maxHeartbeats 800000 in
theorem big2 (m k : Int) (a b : Option Addr) (n cap p d : Nat) (w : World) (hp : p ≤ 9223372036854775807) (h1 : n ≤ 1048576) (h : 1048576 < n + p) :
    Calls Tryd.prog 8 #[.agg #[.int .i64 m, .slice a n cap], .agg #[.int .i64 k, .slice b p d]] w fun e w' => e = .returned (.bool true) ∧ Below w.heap.size w w' := by
  have hy := (alloc2_1 w (.cells #[.int .i64 m, .slice a n cap] 42) (.cells #[.int .i64 k, .slice b p d] 42))
  have hz : ((w.alloc (.cells #[.int .i64 m, .slice a n cap] 42)).alloc (.cells #[.int .i64 k, .slice b p d] 42)).heap.size = w.heap.size + 1 + 1 := by simp
  go_enter Tryd.func8, Tryd.ntmps8
  go_wp2_with fail
  refine (szFamily_any _ _ _ _ _ _ (by omega) (by omega) (by omega)).mono ?_
  rintro e w1 ⟨rfl, hb⟩
  rw [if_neg (by omega)]
  have b1 : HasBlk w1 (w.heap.size + 1) #[.int .i64 k, .slice b p d] 42 := (hb.block _ (by rw [hz]; omega)).trans hy
  have y0 := (blk_cell b1 0).trans (cell2_0 _ _)
  have y1 := (blk_cell b1 1).trans (cell2_1 _ _)
  have HB := Lib.hid ((below2 w _ _).trans (hb.mono (by rw [hz]; omega)))
  clear hb hy b1
  go_wp2_with fail
  refine (szFamily_any _ _ _ _ _ _ hp (by omega) (by omega)).mono ?_
  rintro e w2 ⟨rfl, hb2⟩
  rw [if_pos (by omega)]
  have HD := Lib.hid (HB.out.trans (hb2.mono HB.out.size))
  clear hb2
  go_wp2
  go_ret
  exact ⟨rfl, HD.out⟩

theorem walk (m k : Int) (a b : Option Addr) (cap d : Nat) (zs ys : List Int) (w : World) (hz : Ints w w.heap.size a zs) (hy : Ints w w.heap.size b ys) (hT : Tab w) (hl : zs.length ≤ maxLen) (hl2 : ys.length ≤ maxLen) :
    Calls Tryd.prog 8 #[.agg #[.int .i64 m, .slice a zs.length cap], .agg #[.int .i64 k, .slice b ys.length d]] w fun e w' => e = .returned (.bool true) ∧ Below w.heap.size w w' := by
  by_cases h : zs.length ≤ 1048576
  · by_cases h2 : zs.length + ys.length ≤ 1048576
    · exact walkAIn m k a b cap d zs ys (alikeB m zs k ys) w hz hy h2 (fun a cap b d W hz hy => specAIn_any m k a b cap d zs ys W hz hy (by omega) (by omega)) hT (fun a cap b d W hz hy hT => implAIn_any m k a b cap d zs ys W hz hy hT (by omega) (by omega))
    · exact big2 m k a b zs.length cap ys.length d w (by simp only [maxLen] at hl2; omega) h (by omega)
  · exact big1 m k a b zs.length cap ys.length d w (by simp only [maxLen] at hl; omega) (by omega)

set_option maxRecDepth 100000 in
theorem lifted (os : Os) (started : os.Started) (H : Type) (enc : TypeId × Value → H) :
    ReturnsInHanded {} Tryd.checked os 8 .any (fun w args => (Rows.fnExactAlikeInSpec.pre enc Tryd.prog Tryd.f8 [] false w args ∧ laidMetH Tryd.prog laidL w) ∧ sizedMet enc Tryd.prog Tryd.f8 (OpenSpec.ofChange Rows.fnExactAlikeInSpec) false w args)
      (Rows.fnExactAlikeInSpec.post enc Tryd.prog Tryd.f8 false true false false) := by
  refine returnsInHanded_of_change_and (C := Tryd.checked) (X := fun w _ => laidMetH Tryd.prog laidL w) (fun _ _ _ hh h => h.of_heap hh) Tryd.own started (by kernel_rfl) Tryd.func8
    (ChangeSpec.witness_shaped (enc := enc) (C := Tryd.checked) (os := os) (X := fun w _ => laidMetH Tryd.prog laidL w) false (World.doorLaid Tryd.prog 71 os) #[.agg #[.int .i64 0, .slice none 0 0], .agg #[.int .i64 0, .slice none 0 0]] 8 rfl (World.shaped_of_RefB (by kernel_rfl) (by kernel_rfl)) (by kernel_rfl) (by kernel_rfl) (by kernel_rfl) (door_met os _)) ?_
  intro W base args ds gs before hval0 hW _ _ hL _
  have hval : ∀ (j : Nat) t v, Tryd.f8.params[j]? = some t → args[j]? = some v → Value.okWide Tryd.prog W .any base t v := hval0
  have hW' := hW
  obtain ⟨p, q, hA0, hV, rfl, hfz, hnd⟩ := hW
  have hA : DataW.TrodAll enc Tryd.prog W 0 (fun _ => true) true Tryd.f8.params.toList args.toList ds p := hA0
  rw [Tryd.params8] at hA hval
  obtain ⟨v0, v1, d0, d1, p0, p1, rfl, rfl, rfl, h0, h1⟩ := trodAll_two hA
  obtain ⟨rfl, rfl⟩ := trodVars_none hV
  have k0 := h0
  have k1 := h1
  have lt0 : ∀ x ∈ p0, x.block < W.heap.size := by obtain ⟨m, hm⟩ := k0; exact DataW.trod_lt m _ _ _ hm
  have lt1 : ∀ x ∈ p1, x.block < W.heap.size := by obtain ⟨m, hm⟩ := k1; exact DataW.trod_lt m _ _ _ hm
  obtain ⟨m, a, cap, zs, rfl, hlen, hz⟩ := open_family (hval 0 42 v0 rfl rfl) h0
  obtain ⟨k, b, d, ys, rfl, hlen2, hy⟩ := open_family (hval 1 42 v1 rfl rfl) h1
  clear hA0 hval0
  refine (walk m k a b cap d zs ys W hz hy (tab_of_laid hL) hlen hlen2).mono fun e W' ⟨he, bel⟩ => ?_
  subst he
  exact ⟨_, rfl, _, _, _, [], _, [], hW', trodAll_mk1 (shut_bool Tryd.underlying4 _), (trodAll_mk2 (Below.trod Tryd.laidOut (by kernel_rfl) (of_decide_eq_true (by kernel_rfl)) k0 bel lt0) (Below.trod Tryd.laidOut (by kernel_rfl) (of_decide_eq_true (by kernel_rfl)) k1 bel lt1)), rfl, bel.frame _, fun h => by cases h⟩

theorem over : Rows.FnExactAlikeInSaid :=
  OpenClaim.holds_of_wide 8 Tryd.f8 rfl rfl rfl rfl rfl rfl rfl ⟨rfl, rfl, rfl, rfl, rfl⟩ rfl rfl rfl rfl rfl (by kernel_rfl) Tryd.func8 (by kernel_rfl)
    (of_decide_eq_true (by kernel_rfl)) (by unfold Func.isWrapper; first | (rw [if_pos (by decide +kernel)]; kernel_rfl) | (rw [if_neg (by decide +kernel)]; exact ⟨rfl, rfl⟩))
    (fun os started H enc _ => lifted os started H enc)

theorem proved : Rows.FnExactAlikeInCardSaid :=
  Claim7.holds_tied_plain_at .later [] [.data, .data] true (true, "5716fc86ac9c47ec2933a6c56d7a520ab72901f3fff94d465e8b481e42add155") false
    over (fun _ h => by cases h) (by kernel_rfl) (fun _ h => by cases h) fnExactAlikeIn_row_tie rfl ⟨rfl, rfl⟩ (by kernel_rfl) rfl
    (fun f fn hf hfn => by
      obtain rfl : f = 8 := Option.some.inj ((show Tryd.prog.funcNamed "loop.example/clubsandmembers/laws.FnExactAlikeIn" = some 8 by kernel_rfl).symm.trans hf) |>.symm
      obtain rfl : fn = Tryd.f8 := (Option.some.inj (Tryd.func8.symm.trans hfn)).symm
      exact ⟨by kernel_rfl, fun j t ht => by
        rw [Tryd.params8] at ht
        have hm : t ∈ [42, 42] := by simpa using Array.mem_of_getElem? ht
        have hall : ([42, 42].all fun u => !Tryd.prog.wantsStandIn u) = true := by kernel_rfl
        exact (show Tryd.prog.wantsStandIn t = false by simpa using List.all_eq_true.1 hall t hm)⟩)
    (by kernel_rfl)
end lawAlikeIn
end Go.Proofs.YtjclfpcnfmpjdaaDoor
