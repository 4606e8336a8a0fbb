/- It is proved what MeetFull and MeetHelly of the program return; conditions: those of each statement. -/
import Derived.RowKit
import Derived.Laws.CopyRow
import Derived.Lib.SlBuf
import Derived.Deep.QuietTactic
import Derived.RangeFuncNested
import Derived.RangeFuncBound
import Derived.RangeFuncCalls
import Derived.RangeFuncLeaves
import Derived.RangeFuncBox
import Derived.RangeFuncWrites
import Derived.StillTailTactics
import Derived.Maps.OwnIn
import Derived.Maps.Ext
import Derived.DeepKeys4
import Derived.MapKept
import Derived.Test.YtgjcjllhkkkioaaDoorRows
import Derived.WalkKit
import Derived.WalkSpells
import Derived.ProofKit
import Derived.OpenShut
import Derived.ShutString
import Derived.ChangeOld
import Derived.Below
import Derived.Deep.RegionHeld3
import Derived.BigQuiet
import Derived.Lib.Hide
import Derived.Lib.SmallJoins
import Derived.Outline
import Derived.Laws.MakeOwn
import Derived.Laws.OwnMore
import Derived.IntWalk
import Derived.Lib.AppendZeros
import Derived.Maps.AppendAt
import Derived.Deep.AppendLies
import Derived.OwnWalk
import Derived.Lib.SlicesCompact
import Derived.Lib.OwnBridge
import Derived.OrdersIn
import Derived.TacticsIn
import Derived.Shelf.Sort.Plain
import Derived.Shelf.Slices.In.SortNone
import Derived.Shelf.Slices.CompactI
import Derived.Ground.Names2Prog
import Derived.Lib.SliceRun
import Derived.Laws.BitsAllLaws
import Derived.Shelf.RegionOpen
import Derived.Shelf.Abstract
import Derived.OwnWalkIn
import Derived.TacticsInMore
import Derived.LoopNIn
import Derived.LoopIn
import Derived.StillTail
import Derived.StillTactics
import Derived.Shelf.Spec.TrailingZeros
import Derived.Test.YtgjcjllhkkkioaaDoorRaaa
import Derived.Test.YtgjcjllhkkkioaaDoorRaad
import Derived.Test.YtgjcjllhkkkioaaDoorRaaq
import Derived.Test.YtgjcjllhkkkioaaDoorRaaf
import Derived.Test.YtgjcjllhkkkioaaDoorRaae
import Derived.Test.YtgjcjllhkkkioaaDoorIb
import Derived.Test.YtgjcjllhkkkioaaDoorRabb
import Derived.Test.YtgjcjllhkkkioaaDoorRaav
import Derived.Test.YtgjcjllhkkkioaaDoorRaac
import Derived.Test.YtgjcjllhkkkioaaDoorRaah
import Derived.Test.YtgjcjllhkkkioaaDoorUb
namespace Go.Proofs.YtgjcjllhkkkioaaDoor
open Go.RowKit Go.Shelf

def fullB (m : Int) (zs : List Int) : Bool := famIn m zs && tcB m.toNat zs
def hellyB (m : Int) (zs : List Int) : Bool := famIn m zs && tcB zs.length (duZ m.toNat zs)
theorem club_all {k : Nat} {zs : List Int} (hS : Sets k zs) (h8 : zs.length ≤ 8) : ∀ j, j < zs.length → IsClub k (j, zs[j]?.getD 0) := fun j hj => by
  have := hS _ (getD_mem hj)
  exact ⟨by show j < 8; omega, this.1, this.2⟩

theorem own_blk {w : World} {B : Nat} {a : Option Addr} {n c : Nat} {zs : List Int} (h : OwnI w B (.slice a n c) zs) : Ints w w.heap.size a zs := own_ints h
set_option maxRecDepth 100000 in
set_option maxHeartbeats 2000000 in
theorem implFull_any (m : Int) (a : Option Addr) (c : Nat) (zs : List Int) (w : World) (ha : Ints w w.heap.size a zs) (hT : Tab w) (hx : zs.length ≤ 1048576) :
    Calls Tryd.prog 25 #[.agg #[.int .i64 m, .slice a zs.length c]] w fun e w' => e = .returned (.bool (fullB m zs)) ∧ Below w.heap.size w w' := by
  have F1 := FB.start (m := m) (c := c) ha
  have HB0 := Lib.hid (below1 w (.cells #[.int .i64 m, .slice a zs.length c] 26))
  have HF1 := Lib.hid F1
  have HFI := Lib.hid (implFamilyIn_any m a c zs _ F1.ints hx)
  have HTB : Hid (∀ W, Below w.heap.size w W → Tab W) := Lib.hid fun W h => hT.below h hT.lt
  have f_0 := F1.x0
  have f_1 := F1.x1
  clear F1 ha hT
  cases hf : famIn m zs
  · have HF := Lib.hid hf
    have HR : Hid (fullB m zs = false) := Lib.hid (by unfold fullB; rw [hf]; rfl)
    clear hf
    go_enter Tryd.func25, Tryd.ntmps25
    go_wp2_with fail
    refine HFI.out.mono ?_
    rintro e w2 ⟨rfl, hb2⟩
    rw [HF.out]
    have HF2 := Lib.hid (HF1.out.step hb2)
    have HB2 := Lib.hid (HB0.out.trans (hb2.mono (by simp)))
    clear hb2 f_0 f_1
    have f_0 := HF2.out.x0
    have f_1 := HF2.out.x1
    go_wp2
    go_ret
    exact ⟨by rw [HR.out]; rfl, HB2.out⟩
  · have HF := Lib.hid hf
    obtain ⟨k, rfl, hk1, hk6, hset, hl8⟩ := fam_nat2 hf
    have HR : Hid (fullB (k : Int) zs = tcB k zs) := Lib.hid (by unfold fullB; rw [hf, Int.toNat_natCast]; rfl)
    have HSET := Lib.hid hset
    clear hf hset
    go_enter Tryd.func25, Tryd.ntmps25
    go_wp2_with fail
    refine HFI.out.mono ?_
    rintro e w2 ⟨rfl, hb2⟩
    rw [HF.out]
    have HF2 := Lib.hid (HF1.out.step hb2)
    have HB2 := Lib.hid (HB0.out.trans (hb2.mono (by simp)))
    have HC := Lib.hid (tiedIn8_any k (by omega) a c zs w2 HF2.out.ints hl8 HSET.out (HTB.out _ HB2.out))
    clear hb2 f_0 f_1
    have f_0 := HF2.out.x0
    have f_1 := HF2.out.x1
    go_wp2_with fail
    refine HC.out.mono ?_
    rintro e w3 ⟨rfl, hb3⟩
    have HB3 := Lib.hid (HB2.out.trans (hb3.mono HB2.out.size))
    clear hb3
    go_wp2
    go_ret
    exact ⟨by rw [HR.out]; rfl, HB3.out⟩

set_option maxRecDepth 100000 in
set_option maxHeartbeats 2000000 in
theorem implHelly_any (m : Int) (a : Option Addr) (c : Nat) (zs : List Int) (w : World) (ha : Ints w w.heap.size a zs) (hT : Tab w) (hx : zs.length ≤ 1048576) :
    Calls Tryd.prog 23 #[.agg #[.int .i64 m, .slice a zs.length c]] w fun e w' => e = .returned (.bool (hellyB m zs)) ∧ Below w.heap.size w w' := by
  have F1 := FB.start (m := m) (c := c) ha
  have HB0 := Lib.hid (below1 w (.cells #[.int .i64 m, .slice a zs.length c] 26))
  have HF1 := Lib.hid F1
  have HFI := Lib.hid (implFamilyIn_any m a c zs _ F1.ints hx)
  have HTB : Hid (∀ W, Below w.heap.size w W → Tab W) := Lib.hid fun W h => hT.below h hT.lt
  have f_0 := F1.x0
  have f_1 := F1.x1
  clear F1 ha hT
  cases hf : famIn m zs
  · have HF := Lib.hid hf
    have HR : Hid (hellyB m zs = false) := Lib.hid (by unfold hellyB; rw [hf]; rfl)
    clear hf
    go_enter Tryd.func23, Tryd.ntmps23
    go_wp2_with fail
    refine HFI.out.mono ?_
    rintro e w2 ⟨rfl, hb2⟩
    rw [HF.out]
    have HF2 := Lib.hid (HF1.out.step hb2)
    have HB2 := Lib.hid (HB0.out.trans (hb2.mono (by simp)))
    clear hb2 f_0 f_1
    have f_0 := HF2.out.x0
    have f_1 := HF2.out.x1
    go_wp2
    go_ret
    exact ⟨by rw [HR.out]; rfl, HB2.out⟩
  · have HF := Lib.hid hf
    obtain ⟨k, rfl, hk1, hk6, hset, hl8⟩ := fam_nat2 hf
    have HR : Hid (hellyB (k : Int) zs = tcB zs.length (duZ k zs)) := Lib.hid (by unfold hellyB; rw [hf, Int.toNat_natCast]; rfl)
    have HSET := Lib.hid hset
    clear hf hset
    go_enter Tryd.func23, Tryd.ntmps23
    go_wp2_with fail
    refine HFI.out.mono ?_
    rintro e w2 ⟨rfl, hb2⟩
    rw [HF.out]
    have HF2 := Lib.hid (HF1.out.step hb2)
    have HB2 := Lib.hid (HB0.out.trans (hb2.mono (by simp)))
    have HC := Lib.hid (turned_any k hk6 a c zs w2 HF2.out.ints (HTB.out _ HB2.out) hl8 (club_all HSET.out hl8))
    clear hb2 f_0 f_1
    have f_0 := HF2.out.x0
    have f_1 := HF2.out.x1
    go_wp2_with fail
    refine HC.out.mono ?_
    rintro e w3 ⟨g, rfl, ho3, hb3⟩
    have HB3 := Lib.hid (HB2.out.trans (hb3.mono HB2.out.size))
    have HD := Lib.hid (duZ_len k zs)
    have htc := tiedIn8_any zs.length hl8 (some ⟨g, 0, none⟩) k (duZ k zs) w3 (own_ints ho3) (by rw [HD.out]; omega) (duZ_sets k zs) (HTB.out _ HB3.out)
    rw [HD.out] at htc
    have HTC := Lib.hid htc
    clear hb3 ho3 htc
    go_wp2_with fail
    refine HTC.out.mono ?_
    rintro e w4 ⟨rfl, hb4⟩
    have HB4 := Lib.hid (HB3.out.trans (hb4.mono HB3.out.size))
    clear hb4
    go_wp2
    go_ret
    exact ⟨by rw [HR.out]; rfl, HB4.out⟩

end Go.Proofs.YtgjcjllhkkkioaaDoor

/- It is proved what FamilyAll of the program and of the model return; conditions: those of each statement. -/
namespace Go.Proofs.YtgjcjllhkkkioaaDoor
open Go.RowKit Go.Shelf

attribute [local go_sem] Oper.semAt_some

/-- What a function of an int and a bool returns; nothing that lay has turned. -/
def RetIB (w : World) (r : Int) (ok : Bool) (e : Ending) (w' : World) : Prop := e = .returned (.tuple #[.int .i64 r, .bool ok]) ∧ Below w.heap.size w w'

end Go.Proofs.YtgjcjllhkkkioaaDoor
