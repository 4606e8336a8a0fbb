/- It is proved what tables yields, and what TableMany of the program returns; conditions: those of each statement. -/
import Derived.RowKit
import Derived.Laws.CopyRow
import Derived.Lib.SlBuf
import Derived.Deep.QuietTactic
import Derived.RangeFuncNested
import Derived.RangeFuncBound
import Derived.RangeFuncCalls
import Derived.RangeFuncLeaves
import Derived.RangeFuncBox
import Derived.RangeFuncWrites
import Derived.StillTailTactics
import Derived.Maps.OwnIn
import Derived.Maps.Ext
import Derived.DeepKeys4
import Derived.MapKept
import Derived.Test.YtbiggilheicfjaaDoorRows
import Derived.WalkKit
import Derived.WalkSpells
import Derived.ProofKit
import Derived.OpenShut
import Derived.ShutString
import Derived.ChangeOld
import Derived.Below
import Derived.Deep.RegionHeld3
import Derived.BigQuiet
import Derived.Lib.Hide
import Derived.Lib.SmallJoins
import Derived.Outline
import Derived.Laws.MakeOwn
import Derived.Laws.OwnMore
import Derived.IntWalk
import Derived.Maps.AppendAt
import Derived.Sort.QuietIn
import Derived.Lib.AppendZeros
import Derived.Deep.AppendLies
import Derived.OwnWalk
import Derived.Lib.SlicesCompact
import Derived.Lib.OwnBridge
import Derived.OrdersIn
import Derived.TacticsIn
import Derived.Shelf.Sort.Plain
import Derived.Shelf.Slices.In.SortNone
import Derived.Shelf.Slices.CompactI
import Derived.Ground.Names2Prog
import Derived.Shelf.Abstract
import Derived.Shelf.RegionOpen
import Derived.OwnWalkIn
import Derived.TacticsInMore
import Derived.LoopNIn
import Derived.LoopIn
import Derived.StillTail
import Derived.StillTactics
import Derived.Shelf.Spec.TrailingZeros
import Derived.Test.YtbiggilheicfjaaDoorMva
import Derived.Test.YtbiggilheicfjaaDoorAh
import Derived.Test.YtbiggilheicfjaaDoorAi
import Derived.Test.YtbiggilheicfjaaDoorAm
import Derived.Test.YtbiggilheicfjaaDoorEc
import Derived.Test.YtbiggilheicfjaaDoorEo
import Derived.Test.YtbiggilheicfjaaDoorEp
import Derived.Test.YtbiggilheicfjaaDoorEq
import Derived.Test.YtbiggilheicfjaaDoorEr
import Derived.Test.YtbiggilheicfjaaDoorT
namespace Go.Proofs.YtbiggilheicfjaaDoor
open Go.RowKit Go.Shelf

set_option maxRecDepth 100000 in
set_option maxHeartbeats 4000000 in
theorem tables1_in (n b Bz Bd : Nat) (za da : Option Addr) (zc dc : Nat) (zs ds : List Int) (hz : numIn zs = true) (hd : degIn ds = true) (hb1 : 1 < b) (hbz : b < Bz) (w : World) (hBz : Bz < w.heap.size) (hBd : Bd < w.heap.size)
    (cz : Boxed w Bz 23 (.slice za zs.length zc)) (cd : Boxed w Bd 23 (.slice da ds.length dc)) (iz : Ints w b za zs) (id : Ints w w.heap.size da ds) (hT : Tab w) :
    SeqCells n Tryd.prog 95 #[.pointer (some ⟨Bz, 0, none⟩), .pointer (some ⟨Bd, 0, none⟩)] encT b (OkT zs.length) (fun xs => xs = tabs zs (pad5 ds)) (64 ^ zs.length) w := by
  intro l J W hW hl1 hl2 hb2 hJ hY h0
  refine callsIn_wide.2 ?_
  obtain ⟨hz5, hz05⟩ := numIn_out hz
  obtain ⟨hd1, hd5, hd05⟩ := degIn_out hd
  have hT1 := hT.lt
  have hTW : Tab W := hT.below hW (by omega)
  have hsW : w.heap.size ≤ W.heap.size := hW.size
  have czW : Boxed W Bz 23 (.slice za zs.length zc) := (hW.block _ hBz).trans cz
  have cdW : Boxed W Bd 23 (.slice da ds.length dc) := (hW.block _ hBd).trans cd
  have izW : Ints W b za zs := iz.below (hW.mono (by omega))
  have idW : Ints W W.heap.size da ds := (id.below hW).mono hsW
  obtain ⟨W4, hW4, q0, q1, q2, hs4, hb4⟩ : ∃ W4, ((W.alloc (.cells #[.func (.yield l) #[] #[]] 104)).alloc (.cells #[Value.int .i64 0, .int .i64 0, .int .i64 0, .int .i64 0, .int .i64 0] 65)).alloc (.cells #[.func (.func 96) #[] #[.pointer (some ⟨Bz, 0, none⟩), .pointer (some ⟨W.heap.size, 0, none⟩), .pointer (some ⟨W.heap.size + 1, 0, none⟩), .pointer (some ⟨W.heap.size + 1 + 1, 0, none⟩)]] 105) = W4 ∧
      HasBlk W4 W.heap.size #[.func (.yield l) #[] #[]] 104 ∧ Nums W4 (W.heap.size + 1) 65 [0, 0, 0, 0, 0] ∧
      HasBlk W4 (W.heap.size + 1 + 1) #[.func (.func 96) #[] #[.pointer (some ⟨Bz, 0, none⟩), .pointer (some ⟨W.heap.size, 0, none⟩), .pointer (some ⟨W.heap.size + 1, 0, none⟩), .pointer (some ⟨W.heap.size + 1 + 1, 0, none⟩)]] 105 ∧ W4.heap.size = W.heap.size + 1 + 1 + 1 ∧ Below W.heap.size W W4 :=
    ⟨_, rfl, alloc3_0 W _ _ _, alloc3_1 W _ _ _, alloc3_2 W _ _ _, by simp, below3 W _ _ _⟩
  have hJ4 : J [] W4 := by
    rw [← hW4]
    exact hJ _ _ _ none (hJ _ _ _ none (hJ _ _ _ none h0 (World.grownBy_alloc _ _ _) (by simp)) (World.grownBy_alloc _ _ _) (by simp)) (World.grownBy_alloc _ _ _) (by simp)
  have hO4 : TS Bz W.heap.size (W.heap.size + 1) (W.heap.size + 1 + 1) l b za zc zs W4 [0, 0, 0, 0, 0] :=
    ⟨(hb4.block _ (by omega)).trans czW, izW.below (hb4.mono (by omega)), q0, q2, q1, hTW.below hb4 hTW.lt⟩
  have LL : TLies Bz W.heap.size (W.heap.size + 1) (W.heap.size + 1 + 1) l b W.heap.size := ⟨hb1, hbz, by omega, hl2, by omega, by omega, by omega, by omega, by omega⟩
  have hms : MsOk zs.length [] [0, 0, 0, 0, 0] := ⟨rfl, rfl, by
    obtain h | h | h | h | h | h : zs.length = 0 ∨ zs.length = 1 ∨ zs.length = 2 ∨ zs.length = 3 ∨ zs.length = 4 ∨ zs.length = 5 := by omega
    all_goals rw [h]; rfl⟩
  have hpad : ∀ x ∈ pad5 ds, 0 ≤ x ∧ x ≤ 5 := by
    intro x hx
    rcases List.mem_append.1 hx with h | h
    · exact hd05 x h
    · rw [List.mem_replicate] at h; omega
  have IH := tabGo Bz W.heap.size (W.heap.size + 1) (W.heap.size + 1 + 1) l b W.heap.size (64 ^ zs.length) za zc zs hz05 hz5 LL J hJ (fun k pre x W1 h1 h2 h3 => yield_any k (hY pre x W1 h1 h2 h3)) zs 0 (by simp) (Nat.zero_le _) (pad5 ds) (pad5_len hd5) hpad [] rfl (by simp) [] (by simp) [0, 0, 0, 0, 0] hms
  have cg := (blk_cell q2 0).trans (cell1_0 _)
  have cdd : W4.cell? ⟨Bd, 0, none⟩ = some (.slice da ds.length dc) := (blk_cell (show HasBlk W4 Bd #[.slice da ds.length dc] 23 from (hb4.block _ (by omega)).trans cdW) 0).trans (cell1_0 _)
  have HIH := Lib.hid IH
  have HJ4 := Lib.hid hJ4
  have HO4 := Lib.hid hO4
  have HI4 : Hid (Ints W4 W4.heap.size da ds) := Lib.hid ((idW.below hb4).mono (by omega))
  have HS4 := Lib.hid hs4
  have HLL := Lib.hid LL
  have hst := store_new ((W.alloc (.cells #[.func (.yield l) #[] #[]] 104)).alloc (.cells #[Value.int .i64 0, .int .i64 0, .int .i64 0, .int .i64 0, .int .i64 0] 65)) (W.heap.size + 1 + 1) (by simp) .nilFunc (.func (.func 96) #[] #[.pointer (some ⟨Bz, 0, none⟩), .pointer (some ⟨W.heap.size, 0, none⟩), .pointer (some ⟨W.heap.size + 1, 0, none⟩), .pointer (some ⟨W.heap.size + 1 + 1, 0, none⟩)]) 105 rfl
  rw [hW4] at hst
  clear IH hJ4 hO4 hY h0 q0 q1 q2 hb4 LL hs4 hTW hW czW cdW izW idW cz cd iz id hms hpad
  go_enter Tryd.func95, Tryd.ntmps95
  go_wp2
  clear hst hW4
  have HW := Lib.hid (wantedBy_any da dc ds W4.drew HI4.out hd1 hd5)
  go_region_with (first
    | (go_at_call 69; refine HW.out.mono ?_; rintro e w5 ⟨rfl, hb5⟩; have H5 := HIH.out w5 (by have := hb5.size; have := HS4.out; show W.heap.size ≤ w5.heap.size; exact Nat.le_trans (show W.heap.size ≤ W4.heap.size by omega) hb5.size) (hJ _ _ _ none HJ4.out (show W4.grownBy w5 none from only_of_below (show Below W4.heap.size W4 w5 from (Below.refl _ W4).drew.trans hb5) none) (by simp)) ((HO4.out.keep HLL.out (But.drew (X := fun _ => False) W4) (fun _ e => e.elim)).step HLL.out hb5); have cg5 := (hb5.cell (p := ⟨W.heap.size + 1 + 1, 0, none⟩) (by have := HS4.out; show W.heap.size + 1 + 1 < W4.heap.size; omega)).trans (show W4.drew.cell? ⟨W.heap.size + 1 + 1, 0, none⟩ = _ from cg))
    | (go_at_call 96; refine H5.mono ?_; rintro e w' ⟨rfl, hj, -, -⟩))
  all_goals
    go_wp2
    go_end0
    refine ⟨⟨_, rfl⟩, _, rfl, ?_⟩
    simpa using hj

theorem tables_any (za da : Option Addr) (zc dc : Nat) (zn dn : Nat) (w : World) :
    Calls Tryd.prog 58 #[.slice za zn zc, .slice da dn dc] w fun e w' => e = .returned (.func (.func 95) #[] #[.pointer (some ⟨w.heap.size, 0, none⟩), .pointer (some ⟨w.heap.size + 1, 0, none⟩)]) ∧ w' = (w.alloc (.cells #[.slice za zn zc] 23)).alloc (.cells #[.slice da dn dc] 23) := by
  go_enter Tryd.func58, Tryd.ntmps58
  go_wp2
  go_ret
  exact ⟨rfl, rfl⟩

end Go.Proofs.YtbiggilheicfjaaDoor
