/- It is proved what MeetClubs of the program returns; conditions: those of each statement. -/
import Derived.RowKit
import Derived.Laws.CopyRow
import Derived.Lib.SlBuf
import Derived.Deep.QuietTactic
import Derived.RangeFuncNested
import Derived.RangeFuncBound
import Derived.RangeFuncCalls
import Derived.RangeFuncLeaves
import Derived.RangeFuncBox
import Derived.RangeFuncWrites
import Derived.StillTailTactics
import Derived.Maps.OwnIn
import Derived.Maps.Ext
import Derived.DeepKeys4
import Derived.MapKept
import Derived.Test.YtgjcjllhkkkioaaDoorRows
import Derived.WalkKit
import Derived.WalkSpells
import Derived.ProofKit
import Derived.OpenShut
import Derived.ShutString
import Derived.ChangeOld
import Derived.Below
import Derived.Deep.RegionHeld3
import Derived.BigQuiet
import Derived.Lib.Hide
import Derived.Lib.SmallJoins
import Derived.Outline
import Derived.Laws.MakeOwn
import Derived.Laws.OwnMore
import Derived.IntWalk
import Derived.Deep.RegionLaw
import Derived.Deep.AppendLies
import Derived.Lib.AppendZeros
import Derived.Maps.AppendAt
import Derived.OwnWalk
import Derived.Lib.SlicesCompact
import Derived.Lib.OwnBridge
import Derived.OrdersIn
import Derived.TacticsIn
import Derived.Shelf.Sort.Plain
import Derived.Shelf.Slices.In.SortNone
import Derived.Shelf.Slices.CompactI
import Derived.Ground.Names2Prog
import Derived.Lib.SliceRun
import Derived.Laws.BitsAllLaws
import Derived.Shelf.RegionOpen
import Derived.Shelf.Abstract
import Derived.OwnWalkIn
import Derived.TacticsInMore
import Derived.LoopNIn
import Derived.LoopIn
import Derived.StillTail
import Derived.StillTactics
import Derived.Shelf.Spec.TrailingZeros
import Derived.Test.YtgjcjllhkkkioaaDoorRaaa
import Derived.Test.YtgjcjllhkkkioaaDoorRaab
import Derived.Test.YtgjcjllhkkkioaaDoorRaac
import Derived.Test.YtgjcjllhkkkioaaDoorRaaf
import Derived.Test.YtgjcjllhkkkioaaDoorIb
import Derived.Test.YtgjcjllhkkkioaaDoorRaax
import Derived.Test.YtgjcjllhkkkioaaDoorIg
import Derived.Test.YtgjcjllhkkkioaaDoorRaaw
import Derived.Test.YtgjcjllhkkkioaaDoorRaag
import Derived.Test.YtgjcjllhkkkioaaDoorRaad
import Derived.Test.YtgjcjllhkkkioaaDoorUb
import Derived.Test.YtgjcjllhkkkioaaDoorRaaj
namespace Go.Proofs.YtgjcjllhkkkioaaDoor
open Go.RowKit Go.Shelf

def clubsZ (m : Int) (zs : List Int) : List Int := if famIn m zs then mateTo (duZ m.toNat zs) zs.length else []
theorem clubsZ_len (m : Int) (zs : List Int) : (clubsZ m zs).length ≤ 1048576 := by
  unfold clubsZ
  split
  · rename_i h
    have := famIn_out h
    rw [mateTo_len]; omega
  · simp

set_option maxRecDepth 100000 in
set_option maxHeartbeats 2000000 in
theorem implClubs8_any (m : Int) (a : Option Addr) (c : Nat) (zs : List Int) (w : World) (ha : Ints w w.heap.size a zs) (hT : Tab w) (hx : zs.length ≤ 1048576) :
    Calls Tryd.prog 18 #[.agg #[.int .i64 m, .slice a zs.length c]] w (RetSB w (clubsZ m zs) (famIn m zs)) := by
  have F1 := FB.start (m := m) (c := c) ha
  have HB0 := Lib.hid (below1 w (.cells #[.int .i64 m, .slice a zs.length c] 26))
  have HF1 := Lib.hid F1
  have HFI := Lib.hid (implFamilyIn_any m a c zs _ F1.ints hx)
  have HTB : Hid (∀ W, Below w.heap.size w W → Tab W) := Lib.hid fun W h => hT.below h hT.lt
  have f_0 := F1.x0
  have f_1 := F1.x1
  clear F1 ha hT
  cases hf : famIn m zs
  · have HF := Lib.hid hf
    have HR : Hid (clubsZ m zs = []) := Lib.hid (by unfold clubsZ; rw [hf]; rfl)
    clear hf
    go_enter Tryd.func18, Tryd.ntmps18
    go_wp2_with fail
    refine HFI.out.mono ?_
    rintro e w2 ⟨rfl, hb2⟩
    rw [HF.out]
    have HB2 := Lib.hid (HB0.out.trans (hb2.mono (by simp)))
    clear hb2 f_0 f_1
    go_wp2
    go_ret2
    exact ⟨none, 0, by rw [HR.out]; rfl, by rw [HR.out]; exact own_nil _ _, HB2.out⟩
  · have HF := Lib.hid hf
    obtain ⟨k, rfl, hk1, hk6, hset, hl8⟩ := fam_nat2 hf
    have HR : Hid (clubsZ (k : Int) zs = mateTo (duZ k zs) zs.length) := Lib.hid (by unfold clubsZ; rw [hf, Int.toNat_natCast]; rfl)
    have HL : Hid ((clubsZ (k : Int) zs).length = zs.length) := Lib.hid (by rw [HR.out, mateTo_len])
    have HSET := Lib.hid hset
    clear hf hset
    go_enter Tryd.func18, Tryd.ntmps18
    go_wp2_with fail
    refine HFI.out.mono ?_
    rintro e w2 ⟨rfl, hb2⟩
    rw [HF.out]
    have HF2 := Lib.hid (HF1.out.step hb2)
    have HB2 := Lib.hid (HB0.out.trans (hb2.mono (by simp)))
    have HC := Lib.hid (turned_any k hk6 a c zs w2 HF2.out.ints (HTB.out _ HB2.out) hl8 (club_all HSET.out hl8))
    clear hb2 f_0 f_1
    have f_0 := HF2.out.x0
    have f_1 := HF2.out.x1
    go_wp2_with fail
    refine HC.out.mono ?_
    rintro e w3 ⟨g, rfl, ho3, hb3⟩
    have HB3 := Lib.hid (HB2.out.trans (hb3.mono HB2.out.size))
    have HD := Lib.hid (duZ_len k zs)
    have hma := mates8_any zs.length hl8 (some ⟨g, 0, none⟩) k (duZ k zs) w3 (own_ints ho3) (by rw [HD.out]; omega) (duZ_sets k zs)
    rw [HD.out] at hma
    have HMA := Lib.hid hma
    clear hb3 ho3 hma
    go_wp2_with fail
    refine HMA.out.mono ?_
    rintro e w4 ⟨a4, c4, rfl, ho4, hb4⟩
    have HB4 := Lib.hid (HB3.out.trans (hb4.mono HB3.out.size))
    have HO4 : Hid (OwnI w4 w.heap.size (.slice a4 (clubsZ (k : Int) zs).length c4) (clubsZ (k : Int) zs)) := Lib.hid (by rw [HL.out, HR.out]; exact own_mono ho4 HB3.out.size)
    clear hb4 ho4
    go_wp2
    go_ret2
    exact ⟨a4, c4, by rw [HL.out]; rfl, HO4.out, HB4.out⟩

end Go.Proofs.YtgjcjllhkkkioaaDoor
