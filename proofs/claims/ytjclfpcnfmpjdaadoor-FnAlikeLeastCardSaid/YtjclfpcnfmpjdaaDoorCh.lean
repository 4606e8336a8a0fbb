/- It is proved what AlikeIn of the program returns, and that the call of the law FnExactAlikeIn returns true, given what the two functions return; conditions: those of each statement. -/
import Derived.RowKit
import Derived.Laws.CopyRow
import Derived.Lib.SlBuf
import Derived.Deep.QuietTactic
import Derived.RangeFuncNested
import Derived.RangeFuncBound
import Derived.RangeFuncCalls
import Derived.RangeFuncLeaves
import Derived.RangeFuncBox
import Derived.RangeFuncWrites
import Derived.StillTailTactics
import Derived.Maps.OwnIn
import Derived.Maps.Ext
import Derived.DeepKeys4
import Derived.MapKept
import Derived.Test.YtjclfpcnfmpjdaaDoorRows
import Derived.WalkKit
import Derived.WalkSpells
import Derived.ProofKit
import Derived.OpenShut
import Derived.ShutString
import Derived.ChangeOld
import Derived.Below
import Derived.Deep.RegionHeld3
import Derived.BigQuiet
import Derived.Lib.Hide
import Derived.Lib.SmallJoins
import Derived.Outline
import Derived.Laws.MakeOwn
import Derived.Laws.OwnMore
import Derived.IntWalk
import Derived.Maps.AppendAt
import Derived.Sort.MapsRangeIn
import Derived.Lib.AppendZeros
import Derived.Deep.AppendLies
import Derived.OwnWalk
import Derived.Lib.SlicesCompact
import Derived.Lib.OwnBridge
import Derived.OrdersIn
import Derived.TacticsIn
import Derived.Shelf.Sort.Plain
import Derived.Shelf.Slices.In.SortNone
import Derived.Shelf.Slices.CompactI
import Derived.Ground.Names2Prog
import Derived.Shelf.Abstract
import Derived.Shelf.RegionOpen
import Derived.OwnWalkIn
import Derived.TacticsInMore
import Derived.LoopNIn
import Derived.LoopIn
import Derived.StillTail
import Derived.StillTactics
import Derived.Shelf.Spec.TrailingZeros
import Derived.Test.YtjclfpcnfmpjdaaDoorMo
import Derived.Test.YtjclfpcnfmpjdaaDoorCe
import Derived.Test.YtjclfpcnfmpjdaaDoorCg
namespace Go.Proofs.YtjclfpcnfmpjdaaDoor
open Go.RowKit Go.Shelf Go.Maps

theorem implAIn_any (m k : Int) (a b : Option Addr) (c d : Nat) (zs ys : List Int) (w : World) (ha : Ints w w.heap.size a zs) (hb : Ints w w.heap.size b ys) (hT : Tab w) (hx : zs.length ≤ 1048576) (hy : ys.length ≤ 1048576) :
    Calls Tryd.prog 11 #[.agg #[.int .i64 m, .slice a zs.length c], .agg #[.int .i64 k, .slice b ys.length d]] w fun e w' => e = .returned (.bool (alikeB m zs k ys)) ∧ Below w.heap.size w w' := by
  cases h : sizesB m zs k ys
  · rw [alike_no h]
    exact implAIn_no m k a b c d zs ys w ha hb hx hy h
  · obtain ⟨h1, h2, rfl, h4, h5⟩ := alike_yes h
    obtain ⟨hm1, hm6, -, -⟩ := famIn_out h1
    obtain ⟨q, rfl⟩ : ∃ q : Nat, m = (q : Int) := ⟨m.toNat, by omega⟩
    rw [h5]
    exact implAIn_yes q (by omega) (by omega) a b c d zs ys w ha hb hT hx hy h1 h2 h4

set_option maxRecDepth 100000 in
set_option maxHeartbeats 8000000 in
theorem walkAIn (m k : Int) (a b : Option Addr) (cap dap : Nat) (zs ys : List Int) (r : Bool) (w : World) (ha : Ints w w.heap.size a zs) (hb : Ints w w.heap.size b ys) (hs : zs.length + ys.length ≤ 1048576)
    (hS : ∀ a cap b dap W, Ints W W.heap.size a zs → Ints W W.heap.size b ys → Calls Tryd.prog 12 #[.agg #[.int .i64 m, .slice a zs.length cap], .agg #[.int .i64 k, .slice b ys.length dap]] W fun e W' => e = .returned (.bool r) ∧ Below W.heap.size W W')
    (hT : Tab w) (hI : ∀ a cap b dap W, Ints W W.heap.size a zs → Ints W W.heap.size b ys → Tab W → Calls Tryd.prog 11 #[.agg #[.int .i64 m, .slice a zs.length cap], .agg #[.int .i64 k, .slice b ys.length dap]] W fun e W' => e = .returned (.bool r) ∧ Below W.heap.size W W') :
    Calls Tryd.prog 8 #[.agg #[.int .i64 m, .slice a zs.length cap], .agg #[.int .i64 k, .slice b ys.length dap]] w fun e w' => e = .returned (.bool true) ∧ Below w.heap.size w w' := by
  have HS := Lib.hid hS
  have HI := Lib.hid hI
  have HT := Lib.hid hT
  have hn : zs.length ≤ 1048576 := by omega
  have hn' : ys.length ≤ 1048576 := by omega
  have hbw := below1 w (.cells #[.int .i64 m, .slice a zs.length cap] 42)
  have T0 := AF.start (w.alloc (.cells #[.int .i64 m, .slice a zs.length cap] 42)) k b dap ys ((hb.below hbw).mono hbw.size)
  have S0 := (AF.start w m a cap zs ha).step (below1 (w.alloc (.cells #[.int .i64 m, .slice a zs.length cap] 42)) (.cells #[.int .i64 k, .slice b ys.length dap] 42))
  obtain ⟨wa, hwa⟩ : ∃ wa, wa = w.alloc (.cells #[.int .i64 m, .slice a zs.length cap] 42) := ⟨_, rfl⟩
  have hza : wa.heap.size = w.heap.size + 1 := by rw [hwa]; simp
  have HWA := Lib.hid hwa
  rw [← hwa] at S0 T0
  clear hS hI hT hbw ha hb hwa
  cases r
  all_goals
    go_enter Tryd.func8, Tryd.ntmps8
    go_wp2_with fail
    rw [← HWA.out]
    refine (szFamily_any _ _ _ _ _ _ (by omega) (by omega) (by omega)).mono ?_
    rintro e w0 ⟨rfl, hb0⟩
    rw [if_neg (by omega)]
    have S1 := S0.step hb0
    have T1 := T0.step hb0
    clear S0 T0 hb0
    have y0 := T1.x0
    have y1 := T1.x1
    rw [hza] at y0 y1
    go_wp2_with fail
    refine (szFamily_any _ _ _ _ _ _ (by omega) (by omega) (by omega)).mono ?_
    rintro e w1 ⟨rfl, hb1⟩
    rw [if_neg (by omega)]
    have Sd := (S1.step hb1).drew
    have Td := (T1.step hb1).drew
    clear S1 T1 hb1 y0 y1
    have x0 := Sd.x0
    have x1 := Sd.x1
    have y0 := Td.x0
    have y1 := Td.x1
    rw [hza] at y0 y1
    go_wp2_with fail
    go_region_held3 (fun w' => w'.cell? ⟨w.heap.size, 0, none⟩ = some (.int .i64 m) ∧ w'.cell? ⟨w.heap.size, 1, none⟩ = some (.slice a zs.length cap) ∧ w'.cell? ⟨w.heap.size + 1, 0, none⟩ = some (.int .i64 k) ∧ w'.cell? ⟨w.heap.size + 1, 1, none⟩ = some (.slice b ys.length dap) ∧
        AF w m a cap zs w' ∧ AF wa k b dap ys w')
      (first
        | exact ⟨S4.x0, S4.x1, y04, y14, S4, T4⟩
        | exact ⟨S3.x0, S3.x1, y03, y13, S3, T3⟩
        | exact ⟨S2.x0, S2.x1, y02, y12, S2, T2⟩
        | exact ⟨x0, x1, y0, y1, Sd, Td⟩)
      (first
        | (have hq2 := T2.old; go_at_call 36; refine (toFamily_any k b dap ys _ hq2 hn').mono ?_; rintro e w3 ⟨a3, c3, rfl, ho3, hb3⟩; have S3 := S2.step hb3; have T3 := T2.step hb3; have y03 := T3.x0; have y13 := T3.x1; rw [hza] at y03 y13)
        | (go_at_call 36; refine (toFamily_any m a cap zs _ Sd.old hn).mono ?_; rintro e w2 ⟨a2, c2, rfl, ho2, hb2⟩; have S2 := Sd.step hb2; have T2 := Td.step hb2; have y02 := T2.x0; have y12 := T2.x1; rw [hza] at y02 y12)
        | (go_at_call 12; refine (HS.out _ _ _ _ _ (((own_ints ho2).below hb3).mono hb3.size) (own_ints ho3)).mono ?_; rintro e w4 ⟨rfl, hb4⟩; have S4 := S3.step hb4; have T4 := T3.step hb4; have y04 := T4.x0; have y14 := T4.x1; rw [hza] at y04 y14))
    rename_i hHeld
    obtain ⟨-, -, -, -, S4, T4⟩ := hHeld
    clear Sd Td hb2 hb3 hb4 ho2 ho3 x0 x1 y0 y1 S2 T2 y02 y12 S3 T3 y03 y13
    have x0 := S4.x0
    have x1 := S4.x1
    go_wp2_with fail
    refine (toFamily_any m a cap zs _ S4.old hn).mono ?_
    rintro e w5 ⟨a5, c5, rfl, ho5, hb5⟩
    have X5 := XF.start w5 m a5 c5 zs (own_ints ho5)
    have S5 := (S4.step hb5).step (below1 w5 (.cells #[.int .i64 m, .slice a5 zs.length c5] 25))
    have T5 := (T4.step hb5).step (below1 w5 (.cells #[.int .i64 m, .slice a5 zs.length c5] 25))
    clear S4 T4 hb5 ho5 x0 x1
    have y0 := T5.x0
    have y1 := T5.x1
    rw [hza] at y0 y1
    go_wp2_with fail
    refine (toFamily_any k b dap ys _ T5.old hn').mono ?_
    rintro e w6 ⟨a6, c6, rfl, ho6, hb6⟩
    have Y6 := XF.start w6 k a6 c6 ys (own_ints ho6)
    have X6 := (X5.step hb6).step (below1 w6 (.cells #[.int .i64 k, .slice a6 ys.length c6] 25))
    have S6 := (S5.step hb6).step (below1 w6 (.cells #[.int .i64 k, .slice a6 ys.length c6] 25))
    have T6 := (T5.step hb6).step (below1 w6 (.cells #[.int .i64 k, .slice a6 ys.length c6] 25))
    clear S5 T5 X5 hb6 ho6 y0 y1
    have x0 := X6.x0
    have x1 := X6.x1
    have y0 := Y6.x0
    have y1 := Y6.x1
    go_wp2_with fail
    refine (HI.out _ _ _ _ _ X6.ints Y6.ints (HT.out.below S6.below HT.out.lt)).mono ?_
    rintro e w7 ⟨rfl, hb7⟩
    have S7 := S6.step hb7
    have T7 := T6.step hb7
    have X7 := X6.step hb7
    have Y7 := Y6.step hb7
    clear S6 T6 X6 Y6 hb7 x0 x1 y0 y1
    go_wp2_with fail
    have Sd := S7.drew
    have Td := T7.drew
    have Xd := X7.drew
    have Yd := Y7.drew
    clear S7 T7 X7 Y7
    have x0 := Sd.x0
    have x1 := Sd.x1
    have z0 := Xd.x0
    have z1 := Xd.x1
    go_region_held3 (fun w' => w'.cell? ⟨w.heap.size, 0, none⟩ = some (.int .i64 m) ∧ w'.cell? ⟨w.heap.size, 1, none⟩ = some (.slice a zs.length cap) ∧ w'.cell? ⟨w5.heap.size, 0, none⟩ = some (.int .i64 m) ∧ w'.cell? ⟨w5.heap.size, 1, none⟩ = some (.slice a5 zs.length c5) ∧
        AF w m a cap zs w' ∧ AF wa k b dap ys w' ∧ XF w5.heap.size m a5 c5 zs w' ∧ XF w6.heap.size k a6 c6 ys w')
      (first
        | exact ⟨S9.x0, S9.x1, X9.x0, X9.x1, S9, T9, X9, Y9⟩
        | exact ⟨S8.x0, S8.x1, X8.x0, X8.x1, S8, T8, X8, Y8⟩
        | exact ⟨x0, x1, z0, z1, Sd, Td, Xd, Yd⟩)
      (first
        | (go_at_call 36; refine (toFamily_any m a cap zs _ Sd.old hn).mono ?_; rintro e w8 ⟨a8, c8, rfl, ho8, hb8⟩; have S8 := Sd.step hb8; have T8 := Td.step hb8; have X8 := Xd.step hb8; have Y8 := Yd.step hb8)
        | (go_at_call 37; refine (eqFamily_any _ _ _ _ _ _ zs zs _ X8.ints (own_ints ho8) hn hn).mono ?_; rintro e w9 ⟨rfl, hb9⟩; rw [sameF_self]; have S9 := S8.step hb9; have T9 := T8.step hb9; have X9 := X8.step hb9; have Y9 := Y8.step hb9))
    rename_i hHeld
    obtain ⟨-, -, -, -, S9', T9', X9', Y9'⟩ := hHeld
    clear Sd Td Xd Yd S8 T8 X8 Y8 S9 T9 X9 Y9 hb8 hb9 ho8 x0 x1 z0 z1
    go_wp2_with fail
    have Se := S9'.drew
    have Te := T9'.drew
    have Ye := Y9'.drew
    clear S9' T9' X9' Y9'
    have y0 := Te.x0
    have y1 := Te.x1
    rw [hza] at y0 y1
    have z0 := Ye.x0
    have z1 := Ye.x1
    go_region_held3 (fun w' => w'.cell? ⟨w.heap.size + 1, 0, none⟩ = some (.int .i64 k) ∧ w'.cell? ⟨w.heap.size + 1, 1, none⟩ = some (.slice b ys.length dap) ∧ w'.cell? ⟨w6.heap.size, 0, none⟩ = some (.int .i64 k) ∧ w'.cell? ⟨w6.heap.size, 1, none⟩ = some (.slice a6 ys.length c6) ∧
        AF w m a cap zs w' ∧ AF wa k b dap ys w' ∧ XF w6.heap.size k a6 c6 ys w')
      (first
        | exact ⟨yb0, yb1, Y11.x0, Y11.x1, S11, T11, Y11⟩
        | exact ⟨ya0, ya1, Y10.x0, Y10.x1, S10, T10, Y10⟩
        | exact ⟨y0, y1, z0, z1, Se, Te, Ye⟩)
      (first
        | (go_at_call 36; refine (toFamily_any k b dap ys _ Te.old hn').mono ?_; rintro e w10 ⟨a10, c10, rfl, ho10, hb10⟩; have S10 := Se.step hb10; have T10 := Te.step hb10; have Y10 := Ye.step hb10; have ya0 := T10.x0; have ya1 := T10.x1; rw [hza] at ya0 ya1)
        | (go_at_call 37; refine (eqFamily_any _ _ _ _ _ _ ys ys _ Y10.ints (own_ints ho10) hn' hn').mono ?_; rintro e w11 ⟨rfl, hb11⟩; rw [sameF_self]; have S11 := S10.step hb11; have T11 := T10.step hb11; have Y11 := Y10.step hb11; have yb0 := T11.x0; have yb1 := T11.x1; rw [hza] at yb0 yb1))
    rename_i hHeld
    obtain ⟨-, -, -, -, S12, -, -⟩ := hHeld
    have HD := Lib.hid S12.below
    clear Se Te Ye S10 T10 Y10 S11 T11 Y11 hb10 hb11 ho10 y0 y1 z0 z1 ya0 ya1 yb0 yb1 S12
    go_wp2
    go_ret
    exact ⟨rfl, HD.out⟩

end Go.Proofs.YtjclfpcnfmpjdaaDoor
