/- It is proved that the law FnLeast returns true for all arguments that can be read, and leaves them as they were. Conditions: none beyond the row's own. -/
import Derived.Test.YtkmaebkfmljiiaaJ
import Derived.Test.YtkmaebkfmljiiaaDg
import Derived.Test.YtkmaebkfmljiiaaDf
import Derived.Test.YtkmaebkfmljiiaaHx
namespace Go.Proofs.Ytkmaebkfmljiiaa
open Go.ChangeShapes Go.WideShapes Go.ChangeAt Go.RowKit Go.Joins
open Go.ChangeMaps (open_string shut_string)

namespace lawFnLeast

theorem u8_min : IntKind.u8.min = 0 := by decide
theorem u8_max : IntKind.u8.max = 255 := by decide
theorem byte_in {z : Int} (h : (Lit.int .u8 z).wf = true) : 0 ≤ z ∧ z ≤ 255 := by
  simp [Lit.wf, u8_min, u8_max] at h; exact h
theorem byte_small {z : Int} (h : (Lit.int .u8 z).wf = true) : z.toNat < 256 := by have := byte_in h; omega
theorem byte_nat {z : Int} (h : (Lit.int .u8 z).wf = true) : Value.int .u8 z = .int .u8 ((z.toNat : Nat) : Int) := by
  rw [Int.toNat_of_nonneg (byte_in h).1]
theorem Try.cells5 : Try.prog.cellsOf 5 = 1 := by kernel_rfl

theorem open_code {H : Type} {enc : TypeId × Value → H} {W : World} {base : Nat} {v : Value} {d : DataW H} {p : List MemPlace}
    (hv : Value.okWide Try.prog W .any base 22 v) (h : DataW.Trod enc Try.prog W 0 (fun _ => true) true 22 v d p) :
    ∃ a n cap, v = .slice a n cap ∧ n ≤ cap ∧ cap ≤ maxLen ∧ Bys W W.heap.size a n := by
  obtain ⟨a, n, cap, rfl⟩ := okWide_slice Try.underlying22 hv
  obtain ⟨fuel, hf⟩ := h
  rcases open_ints Try.underlying22 Try.underlying5 Try.cells5 hf with ⟨hcs, _⟩ | ⟨x, l, c, zs, hcs, _, hl, hm, hz, hx, hcell, hwz⟩
  · simp [Value.cells] at hcs
    obtain ⟨rfl, rfl, rfl⟩ := hcs
    exact ⟨none, 0, 0, rfl, by omega, by simp [maxLen], .inl rfl⟩
  · simp [Value.cells] at hcs
    obtain ⟨rfl, rfl, rfl⟩ := hcs
    refine ⟨some x, n, cap, rfl, hl, hm, ?_⟩
    by_cases h0 : n = 0
    · exact .inl h0
    · obtain ⟨b, off, spot⟩ := x
      simp at hz
      have hc := hcell 0 (by omega)
      have hspot : spot = none := by simpa [Addr.add] using World.cell?_spot hc
      subst hspot
      refine .inr ⟨b, off, rfl, by simpa [Addr.add] using World.block_lt_of_cell? W _ hc, fun j hj => ?_⟩
      have h1 := hcell j (by omega)
      rw [show (⟨b, off, none⟩ : Addr).add j = ⟨b, off + j, none⟩ from by unfold Addr.add; split <;> simp_all] at h1
      have h2 := hwz (zs.getD j 0) (by
        have : j < zs.length := by omega
        simp [List.getD, this])
      refine ⟨(zs.getD j 0).toNat, ?_, ?_⟩
      · exact byte_small h2
      · rw [h1, byte_nat h2]

set_option maxRecDepth 100000 in
set_option maxHeartbeats 800000 in
theorem big (a : Option Addr) (n cap : Nat) (w : World) (hn : n ≤ 9223372036854775807) (h : 1048576 < n) :
    Calls Try.prog 4 #[.slice a n cap] w fun e w' => e = .returned (.bool true) ∧ Below w.heap.size w w' := by
  go_enter Try.func4, Try.ntmps4
  go_wp2
  go_ret
  exact ⟨rfl, Below.refl _ _⟩

theorem part_le (x y : Int) : partB x y = leG x y := rfl
theorem famY_len (m : Int) (zs : List Int) (h : zs.length ≤ 1048576) : (famF (famIn m zs) (unbeaten leG) zs).length ≤ 1048576 := by
  unfold famF
  split
  · exact Nat.le_trans (unbeaten_le _ _) h
  · simp
theorem famY (m : Int) (zs : List Int) (h : famIn m zs = true) : famF (famIn m zs) (unbeaten leG) zs = unbeaten leG zs := by rw [famF, h]; rfl
theorem small (m : Int) (zs : List Int) (h : famIn m zs = true) : ∀ z ∈ zs, 0 ≤ z ∧ z < 64 := fun z hz => by
  obtain ⟨hm1, hm6, -, h4⟩ := famIn_out h
  have h1 := h4 z hz
  have h2 : fullI m ≤ 63 := by
    rcases m16 hm1 hm6 with rfl | rfl | rfl | rfl | rfl | rfl
    all_goals decide
  omega

theorem walk (a : Option Addr) (n cap : Nat) (w : World) (hb : Bys w w.heap.size a n) (hc : n ≤ cap) (hm : cap ≤ maxLen) :
    Calls Try.prog 4 #[.slice a n cap] w fun e w' => e = .returned (.bool true) ∧ Below w.heap.size w w' := by
  have hm' : cap ≤ 9223372036854775807 := by simp only [maxLen] at hm; omega
  by_cases h : n ≤ 1048576
  · refine walkFnLeast (fun m zs => famM (famIn m zs) m) (fun m zs => famF (famIn m zs) (unbeaten leG) zs) famY_len
      (fun m zs hx a c W hz => implLeast_any m a c zs W hz hx) (fun m zs hx a c W hz => specLeast_any m a c zs W hz hx) ?_ ?_ a n cap w hb h hc hm'
    · intro m zs hf i k hi hk hne
      simp only [famY m zs hf] at hi hk ⊢
      have := least_apart zs hi hk hne
      rw [part_le]
      simpa [hi, hk] using this
    · intro m zs hf i hi
      obtain ⟨k, hk, hp⟩ := least_under zs (small m zs hf) i hi
      refine ⟨k, by simp only [famY m zs hf]; exact hk, ?_⟩
      simp only [famY m zs hf]
      rw [part_le]
      simpa [hi, hk] using hp
  · exact big a n cap w (by omega) (by omega)

set_option maxRecDepth 100000 in
theorem lifted (os : Os) (started : os.Started) (H : Type) (enc : TypeId × Value → H) :
    ReturnsInHanded {} Try.checked os 4 .any (Rows.fnLeastSpec.pre6 enc Try.prog Try.f4 Rows.fnLeastRow.domain false) (Rows.fnLeastSpec.post enc Try.prog Try.f4 false true false false) := by
  refine returnsInHanded_of_change (C := Try.checked) Try.own started (by kernel_rfl) Try.func4
    (ChangeSpec.witness6 (enc := enc) (C := Try.checked) false ⟨#[], #[.slice none 0 0], []⟩ 8 (by kernel_rfl) (by kernel_rfl) (by kernel_rfl) (by kernel_rfl)) ?_
  intro W base args ds gs before hval0 hW hcnd _
  have hval : ∀ (j : Nat) t v, Try.f4.params[j]? = some t → args[j]? = some v → Value.okWide Try.prog W .any base t v := hval0
  have hW' := hW
  obtain ⟨p, q, hA0, hV, rfl, hfz, hnd⟩ := hW
  have hA : DataW.TrodAll enc Try.prog W 0 (fun _ => true) true Try.f4.params.toList args.toList ds p := hA0
  rw [Try.params4] at hA hval
  obtain ⟨v0, d0, rfl, rfl, h0⟩ := trodAll_one hA
  obtain ⟨rfl, rfl⟩ := trodVars_none hV
  have k0 := h0
  have lt0 : ∀ x ∈ p, x.block < W.heap.size := by obtain ⟨m, hm⟩ := k0; exact DataW.trod_lt m _ _ _ hm
  obtain ⟨a, n, cap, rfl, hnc, hcm, hby⟩ := open_code (hval 0 22 v0 rfl rfl) h0
  clear hA0 hval0
  refine (walk a n cap W hby hnc hcm).mono fun e W' ⟨he, bel⟩ => ?_
  subst he
  exact ⟨_, rfl, _, _, _, [], _, [], hW', trodAll_mk1 (shut_bool Try.underlying4 _), (trodAll_mk1 (Below.trod Try.laidOut (by kernel_rfl) (of_decide_eq_true (by kernel_rfl)) k0 bel lt0)), rfl, bel.frame _, fun h => by cases h⟩

theorem over : Rows.fnLeastRow.holds Try.pinned (OpenSpec.ofChange Rows.fnLeastSpec) :=
  OpenClaim.holds_of_wide 4 Try.f4 rfl rfl rfl rfl rfl rfl rfl ⟨rfl, rfl, rfl, rfl, rfl⟩ rfl rfl rfl rfl rfl (by kernel_rfl) Try.func4 (by kernel_rfl)
    (of_decide_eq_true (by kernel_rfl)) (by unfold Func.isWrapper; first | (rw [if_pos (by decide +kernel)]; kernel_rfl) | (rw [if_neg (by decide +kernel)]; exact ⟨rfl, rfl⟩))
    (fun os started H enc _ => lifted os started H enc)

theorem proved : Rows.FnLeastSaid := over
end lawFnLeast
end Go.Proofs.Ytkmaebkfmljiiaa
