/- It is proved that the calls of exact laws of ears return true, given what the two functions return; conditions: those of each statement. -/
import Derived.Test.YtidbkegnngfpiaaDoorRows
import Derived.WalkKit
import Derived.WalkSpells
import Derived.ProofKit
import Derived.OpenShut
import Derived.ShutString
import Derived.ChangeOld
import Derived.Below
import Derived.Deep.RegionHeld3
import Derived.Deep.QuietTactic
import Derived.BigQuiet
import Derived.Lib.Hide
import Derived.Lib.SmallJoins
import Derived.Outline
import Derived.Laws.MakeOwn
import Derived.Laws.OwnMore
import Derived.IntWalk
import Derived.RangeFuncNested
import Derived.RangeFuncBound
import Derived.RangeFuncCalls
import Derived.RangeFuncLeaves
import Derived.RangeFuncBox
import Derived.Shelf.Abstract
import Derived.Shelf.RegionOpen
import Derived.OwnWalkIn
import Derived.TacticsInMore
import Derived.LoopNIn
import Derived.LoopIn
import Derived.Maps.AppendAt
import Derived.Shelf.Spec.TrailingZeros
import Derived.Test.YtidbkegnngfpiaaDoorRaaa
import Derived.Test.YtidbkegnngfpiaaDoorRaab
import Derived.Test.YtidbkegnngfpiaaDoorRaad
import Derived.Test.YtidbkegnngfpiaaDoorRaae
namespace Go.Proofs.YtidbkegnngfpiaaDoor
open Go.RowKit

set_option maxRecDepth 100000 in
set_option maxHeartbeats 1600000 in
theorem walkEarForest (m : Int) (a : Option Addr) (cap : Nat) (zs : List Int) (r : Bool) (w : World) (ha : Ints w w.heap.size a zs) (hn : zs.length ≤ 1048576)
    (hS : ∀ a cap W, Ints W W.heap.size a zs → Calls Tryd.prog 27 #[.agg #[.int .i64 m, .slice a zs.length cap]] W fun e W' => e = .returned (.bool r) ∧ Below W.heap.size W W')
    (hT : Tab w) (hI : ∀ a cap W, Ints W W.heap.size a zs → Tab W → Calls Tryd.prog 28 #[.agg #[.int .i64 m, .slice a zs.length cap]] W fun e W' => e = .returned (.bool r) ∧ Below W.heap.size W W') :
    Calls Tryd.prog 8 #[.agg #[.int .i64 m, .slice a zs.length cap]] w fun e w' => e = .returned (.bool true) ∧ Below w.heap.size w w' := by
  have HS := Lib.hid hS
  have HI := Lib.hid hI
  have HT := Lib.hid hT
  have S0 := AF.start w m a cap zs ha
  clear hS hI hT
  cases r
  all_goals
    go_enter Tryd.func8, Tryd.ntmps8
    go_wp2_with fail
    refine (szFamily_any _ _ _ _ _ _ (by omega) (by omega) (by omega)).mono ?_
    rintro e w0 ⟨rfl, hb0⟩
    rw [if_neg (by omega)]
    have S1 := S0.step hb0
    clear S0 hb0
    have x0 := S1.x0
    have x1 := S1.x1
    go_wp2_with fail
    refine (toFamily_any _ _ _ zs _ S1.old hn).mono ?_
    rintro e w1 ⟨a1, c1, rfl, ho1, hb1⟩
    have S2 := S1.step hb1
    clear S1 hb1 x0 x1
    go_wp2_with fail
    refine (HS.out _ _ _ (own_ints ho1)).mono ?_
    rintro e w2 ⟨rfl, hb2⟩
    have S3 := S2.step hb2
    clear S2 hb2 ho1
    have x0 := S3.x0
    have x1 := S3.x1
    go_wp2_with fail
    refine (toFamily_any _ _ _ zs _ S3.old hn).mono ?_
    rintro e w3 ⟨a2, c2, rfl, ho2, hb3⟩
    have S4 := (S3.step hb3).step (below1 w3 (.cells #[.int .i64 m, .slice a2 zs.length c2] 26))
    have X4 := XF.start w3 m a2 c2 zs (own_ints ho2)
    clear S3 hb3 x0 x1
    go_wp2_with fail
    refine (HI.out _ _ _ X4.ints (HT.out.below S4.below HT.out.lt)).mono ?_
    rintro e w4 ⟨rfl, hb4⟩
    have S5 := S4.step hb4
    have X5 := X4.step hb4
    clear S4 X4 hb4 ho2
    have x0 := S5.x0
    have x1 := S5.x1
    have y0 := X5.x0
    have y1 := X5.x1
    go_wp2_with fail
    have Sd := S5.drew
    have Xd := X5.drew
    clear S5 X5
    go_region_held3 (fun w' => w'.cell? ⟨w.heap.size, 0, none⟩ = some (.int .i64 m) ∧ w'.cell? ⟨w.heap.size, 1, none⟩ = some (.slice a zs.length cap) ∧ w'.cell? ⟨w3.heap.size, 0, none⟩ = some (.int .i64 m) ∧ w'.cell? ⟨w3.heap.size, 1, none⟩ = some (.slice a2 zs.length c2) ∧ Below w.heap.size w w')
      (first
        | exact ⟨Sd.x0, Sd.x1, Xd.x0, Xd.x1, Sd.below⟩
        | exact ⟨(Sd.step hb5).x0, (Sd.step hb5).x1, (Xd.step hb5).x0, (Xd.step hb5).x1, (Sd.step hb5).below⟩
        | exact ⟨((Sd.step hb5).step hb6).x0, ((Sd.step hb5).step hb6).x1, ((Xd.step hb5).step hb6).x0, ((Xd.step hb5).step hb6).x1, ((Sd.step hb5).step hb6).below⟩)
      (first
        | (go_at_call 11; refine (toFamily_any _ _ _ zs _ Sd.old hn).mono ?_; rintro e w5 ⟨a3, c3, rfl, ho3, hb5⟩)
        | (go_at_call 13; refine (eqFamily_any _ _ _ _ _ _ zs zs _ (Xd.step hb5).ints (own_ints ho3) hn hn).mono ?_; rintro e w6 ⟨rfl, hb6⟩; rw [sameF_self]))
    rename_i hHeld
    have HD := Lib.hid hHeld.2.2.2.2
    clear hHeld
    go_wp2
    go_ret
    exact ⟨rfl, HD.out⟩

end Go.Proofs.YtidbkegnngfpiaaDoor
