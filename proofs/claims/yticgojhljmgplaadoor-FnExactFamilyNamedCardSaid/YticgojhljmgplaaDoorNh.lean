/- It is proved what markIntS leaves, wherever it begins; conditions: those of each statement. -/
import Derived.Test.YticgojhljmgplaaDoorZd
namespace Go.Proofs.YticgojhljmgplaaDoor
open Go.RowKit

set_option maxRecDepth 100000 in
set_option maxHeartbeats 400000 in
theorem markIntS_from (a : Option Addr) (cap B k0 : Nat) (zs : List Int) (w : World) (ho : OwnI w B (.slice a zs.length cap) zs) (hn : zs.length ≤ 1048576) (hk0 : k0 ≤ 4000000) :
    Calls Tryd.prog 19 #[.slice a zs.length cap, .int .i64 (k0 : Int)] w fun e w' => e = .returned (.int .i64 ((k0 : Int) + (zs.length : Int))) ∧ w.grownBy w' (Value.slice a zs.length cap).ownBlock := by
  obtain ⟨n, hl⟩ : ∃ n, n = zs.length := ⟨_, rfl⟩
  have hO : Hid (OwnN w B a n cap zs) := Lib.hid (by rw [hl]; exact ho)
  rw [← hl] at hn ⊢
  clear hl ho
  go_enter Tryd.func19, Tryd.ntmps19
  go_wp2
  go_loopw [1, 5] (fun kk i wr => ∃ (k : Nat) (xs : List Int), k ≤ n ∧ i = .int .i64 k ∧ kk = .int .i64 ((k0 : Int) + (k : Int)) ∧ OwnN wr B a n cap xs ∧ w.grownBy wr (Value.slice a n cap).ownBlock) (fun _ i _ => n - (intOf i).toNat)
  case atStart => exact ⟨0, zs, Nat.zero_le _, rfl, by simp, hO.out, World.grownBy.refl _ _⟩
  case round =>
    obtain ⟨k, xs, hk, rfl, rfl, ho, hg⟩ := hrel
    by_cases hlt : k < n
    · obtain ⟨g, rfl, hgB, hgs⟩ := ho.addr (by omega)
      have hxl : xs.length = n := by have := ho.1; simpa using this
      have hcs : wr.cell? ⟨g, k, none⟩ = some (.int .i64 (xs[k]'(by omega))) := by
        rw [World.ownsRow.cellAt ho k (by omega), List.getElem?_map, List.getElem?_eq_getElem (by omega)]; rfl
      have hfz := World.ownsRow.frozenAt ho k
      have HS := Lib.hid (World.ownsRow.stored ho k (.int .i64 ((k0 : Int) + (k : Int))))
      have HG := Lib.hid hg
      clear ho hg
      go_wp2
      go_roundw
      case rel => exact ⟨k + 1, xs.set k ((k0 : Int) + (k : Int)), by omega, by go_num, by push_cast; simp; omega, by have h1 := HS.out.1; rw [← List.map_set] at h1; exact h1, only_setCell (p := ⟨g, k, none⟩) HG.out rfl _⟩
      case measure => simp [intOf]; omega
    · obtain rfl : k = n := by omega
      have HG := Lib.hid hg
      clear ho hg
      go_wp2
      go_ret
      exact ⟨rfl, HG.out⟩
end Go.Proofs.YticgojhljmgplaaDoor
