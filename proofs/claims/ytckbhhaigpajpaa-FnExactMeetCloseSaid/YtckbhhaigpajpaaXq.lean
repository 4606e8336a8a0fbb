/- It is proved that the calls of the exact law of MeetClose return true, given what the two functions return; conditions: those of each statement. -/
import Derived.Test.YtckbhhaigpajpaaRows
import Derived.WalkKit
import Derived.WalkSpells
import Derived.ProofKit
import Derived.OpenShut
import Derived.ShutString
import Derived.ChangeOld
import Derived.Below
import Derived.Deep.RegionHeld3
import Derived.Deep.QuietTactic
import Derived.BigQuiet
import Derived.Lib.Hide
import Derived.Lib.SmallJoins
import Derived.Outline
import Derived.Laws.MakeOwn
import Derived.Laws.OwnMore
import Derived.IntWalk
import Derived.Test.YtckbhhaigpajpaaRaaa
import Derived.Test.YtckbhhaigpajpaaRaab
import Derived.Test.YtckbhhaigpajpaaRaad
import Derived.Test.YtckbhhaigpajpaaRaac
import Derived.Test.YtckbhhaigpajpaaRaae
namespace Go.Proofs.Ytckbhhaigpajpaa
open Go.RowKit

set_option maxRecDepth 100000 in
set_option maxHeartbeats 4000000 in
theorem walkMeetClose (m : Int) (a : Option Addr) (cap : Nat) (zs : List Int) (m' : Int) (zs' : List Int) (ok : Bool) (w : World) (ha : Ints w w.heap.size a zs) (hn : zs.length ≤ 1048576) (hn' : zs'.length ≤ 1048576)
    (hS : ∀ a cap W, Ints W W.heap.size a zs → Calls Try.prog 7 #[.agg #[.int .i64 m, .slice a zs.length cap]] W (RetFB W m' zs' ok))
    (hI : ∀ a cap W, Ints W W.heap.size a zs → Calls Try.prog 6 #[.agg #[.int .i64 m, .slice a zs.length cap]] W (RetFB W m' zs' ok)) :
    Calls Try.prog 4 #[.agg #[.int .i64 m, .slice a zs.length cap]] w fun e w' => e = .returned (.bool true) ∧ Below w.heap.size w w' := by
  have HS := Lib.hid hS
  have HI := Lib.hid hI
  have S0 := AF.start w m a cap zs ha
  clear hS hI
  cases ok
  all_goals
    go_enter Try.func4, Try.ntmps4
    go_wp2_with fail
    refine (szFamily_any _ _ _ _ _ _ (by omega) (by omega) (by omega)).mono ?_
    rintro e w0 ⟨rfl, hb0⟩
    rw [if_neg (by omega)]
    have S1 := S0.step hb0
    clear S0 hb0
    have x0 := S1.x0
    have x1 := S1.x1
    go_wp2_with fail
    refine (toFamily_any _ _ _ zs _ S1.old hn).mono ?_
    rintro e w1 ⟨a1, c1, rfl, ho1, hb1⟩
    have S2 := S1.step hb1
    clear S1 hb1 x0 x1
    go_wp2_with fail
    refine (HS.out _ _ _ (own_ints ho1)).mono ?_
    rintro e w2 ⟨a2, c2, rfl, ho2, hb2⟩
    have P3 := XB.start (m := m') ho2
    have S2' := S2.step hb2
    have S2'size := S2'.size
    have S3 := S2'.step (below1 w2 (.cells #[.int .i64 m', .slice a2 zs'.length c2] 25))
    have x0 := S3.x0
    have x1 := S3.x1
    clear S2 S2' hb2 ho1 ho2
    go_wp2_with fail
    refine (toFamily_any _ _ _ zs _ S3.old hn).mono ?_
    rintro e w4 ⟨a4, c4, rfl, ho4, hb4⟩
    have S4 := S3.step hb4
    have P4 := P3.step hb4
    have z4 : w2.heap.size + 1 ≤ w4.heap.size := by have := hb4.size; simpa using this
    have ho4' : OwnI w4 (w2.heap.size + 1) (.slice a4 zs.length c4) zs := by simpa using ho4
    have X5 := XB.start (m := m) ho4'
    have P5 := P4.step (below1 w4 (.cells #[.int .i64 m, .slice a4 zs.length c4] 25))
    have S5 := S4.step (below1 w4 (.cells #[.int .i64 m, .slice a4 zs.length c4] 25))
    clear S3 S4 P3 P4 hb4 ho4 ho4' x0 x1
    go_wp2_with fail
    refine (HI.out _ _ _ X5.ints).mono ?_
    rintro e w6 ⟨a6, c6, rfl, ho6, hb6⟩
    have z6 : w4.heap.size + 1 ≤ w6.heap.size := by have := hb6.size; simpa using this
    have ho6' : OwnI w6 (w4.heap.size + 1) (.slice a6 zs'.length c6) zs' := by simpa using ho6
    have G6 := XB.start (m := m') ho6'
    have P6 := P5.step hb6
    have X6 := X5.step hb6
    have S6 := S5.step hb6
    have P7 := P6.step (below1 w6 (.cells #[.int .i64 m', .slice a6 zs'.length c6] 25))
    have X7 := X6.step (below1 w6 (.cells #[.int .i64 m', .slice a6 zs'.length c6] 25))
    have S7 := S6.step (below1 w6 (.cells #[.int .i64 m', .slice a6 zs'.length c6] 25))
    have y0 := P7.x0
    have y1 := P7.x1
    clear S5 S6 P5 P6 X5 X6 hb6 ho6 ho6'
    go_wp2_with fail
    refine (eqFamily_any _ _ _ _ _ _ zs' zs' _ G6.ints P7.ints hn' hn').mono ?_
    rintro e w8 ⟨rfl, hb8⟩
    rw [sameF_self]
    have P8 := P7.step hb8
    have X8 := X7.step hb8
    have G8 := G6.step hb8
    have S8 := S7.step hb8
    clear P7 X7 G6 S7 hb8 y0 y1
    have x0 := S8.x0
    have x1 := S8.x1
    have y0 := X8.x0
    have y1 := X8.x1
    go_wp2_with fail
    have Sd := S8.drew
    have Pd := P8.drew
    have Xd := X8.drew
    have Gd := G8.drew
    clear S8 P8 X8 G8
    go_region_held3 (fun w' => w'.cell? ⟨w.heap.size, 0, none⟩ = some (.int .i64 m) ∧ w'.cell? ⟨w.heap.size, 1, none⟩ = some (.slice a zs.length cap) ∧ w'.cell? ⟨w4.heap.size, 0, none⟩ = some (.int .i64 m) ∧ w'.cell? ⟨w4.heap.size, 1, none⟩ = some (.slice a4 zs.length c4) ∧
        AF w m a cap zs w' ∧ XB w2.heap.size w1.heap.size w2.heap.size m' a2 zs'.length c2 zs' w' ∧ XB w4.heap.size (w2.heap.size + 1) w4.heap.size m a4 zs.length c4 zs w' ∧ XB w6.heap.size (w4.heap.size + 1) w6.heap.size m' a6 zs'.length c6 zs' w')
      (first
        | exact ⟨Sd.x0, Sd.x1, Xd.x0, Xd.x1, Sd, Pd, Xd, Gd⟩
        | exact ⟨(Sd.step hb9).x0, (Sd.step hb9).x1, (Xd.step hb9).x0, (Xd.step hb9).x1, Sd.step hb9, Pd.step hb9, Xd.step hb9, Gd.step hb9⟩
        | exact ⟨((Sd.step hb9).step hb10).x0, ((Sd.step hb9).step hb10).x1, ((Xd.step hb9).step hb10).x0, ((Xd.step hb9).step hb10).x1, (Sd.step hb9).step hb10, (Pd.step hb9).step hb10, (Xd.step hb9).step hb10, (Gd.step hb9).step hb10⟩)
      (first
        | (go_at_call 12; refine (toFamily_any _ _ _ zs _ Sd.old hn).mono ?_; rintro e w9 ⟨a9, c9, rfl, ho9, hb9⟩)
        | (go_at_call 13; refine (eqFamily_any _ _ _ _ _ _ zs zs _ (Xd.step hb9).ints (own_ints ho9) hn hn).mono ?_; rintro e w10 ⟨rfl, hb10⟩; rw [sameF_self]))
    rename_i hHeld
    obtain ⟨-, -, -, -, S10, P10, X10, G10⟩ := hHeld
    clear Sd Pd Xd Gd hb9 hb10 ho9 x0 x1 y0 y1
    have y0 := X10.x0
    have y1 := X10.x1
    go_wp2_with fail
    refine (markFamily_any _ _ _ _ zs _ X10.ownI hn).mono ?_
    rintro e w11 ⟨rfl, ho11, hg11⟩
    have r11 := X10.rng
    have q11 := S10.size
    have q10 := P10.size
    have q12 := P10.hiX
    have S11 := S10.kept hg11 (fun g e => by have := r11 g e; have := z4; have := S2'size; omega)
    have P11 := P10.kept hg11 (fun g e => by have := r11 g e; omega)
    have G11 := G10.kept hg11 (fun g e => by have := r11 g e; omega)
    have X11 := X10.marked ho11 hg11
    clear S10 P10 G10 X10 ho11 hg11 r11 q11 q10 q12 y0 y1
    have x0 := P11.x0
    have x1 := P11.x1
    have y0 := G11.x0
    have y1 := G11.x1
    go_wp2_with fail
    refine (eqFamily_any _ _ _ _ _ _ zs' zs' _ G11.ints P11.ints hn' hn').mono ?_
    rintro e w12 ⟨rfl, hb12⟩
    rw [sameF_self]
    have P12 := P11.step hb12
    have G12 := G11.step hb12
    have S12 := S11.step hb12
    clear P11 X11 G11 S11 hb12 x0 x1 y0 y1
    have y0 := G12.x0
    have y1 := G12.x1
    go_wp2_with fail
    refine (markFamily_any _ _ _ _ zs' _ G12.ownI hn').mono ?_
    rintro e w13 ⟨rfl, ho13, hg13⟩
    have r13 := G12.rng
    have q11 := S12.size
    have q10 := P12.size
    have q12 := P12.hiX
    have S13 := S12.kept hg13 (fun g e => by have := r13 g e; omega)
    have P13 := P12.kept hg13 (fun g e => by have := r13 g e; omega)
    have G13 := G12.marked ho13 hg13
    clear S12 P12 G12 ho13 hg13 r13 q11 q10 q12 y0 y1
    have y0 := G13.x0
    have y1 := G13.x1
    go_wp2_with fail
    refine (heldFamily_any _ _ _ _ _ G13.ints hn').mono ?_
    rintro e w14 ⟨rfl, hb14⟩
    have P14 := P13.step hb14
    have G14 := G13.step hb14
    have S14 := S13.step hb14
    clear P13 G13 S13 hb14 y0 y1
    have x0 := S14.x0
    have x1 := S14.x1
    go_wp2_with fail
    refine (toFamily_any _ _ _ zs _ S14.old hn).mono ?_
    rintro e w15 ⟨a15, c15, rfl, ho15, hb15⟩
    have P15 := P14.step hb15
    have G15 := G14.step hb15
    have S15 := S14.step hb15
    clear P14 G14 S14 hb15 x0 x1
    go_wp2_with fail
    refine (HI.out _ _ _ (own_ints ho15)).mono ?_
    rintro e w16 ⟨a16, c16, rfl, ho16, hb16⟩
    have P16 := (P15.step hb16).step (below1 w16 (.cells #[.int .i64 m', .slice a16 zs'.length c16] 25))
    have G16 := (G15.step hb16).step (below1 w16 (.cells #[.int .i64 m', .slice a16 zs'.length c16] 25))
    have S16 := (S15.step hb16).step (below1 w16 (.cells #[.int .i64 m', .slice a16 zs'.length c16] 25))
    have H16 := XB.start (m := m') ho16
    have x0 := P16.x0
    have x1 := P16.x1
    clear P15 G15 S15 hb16 ho15 ho16
    go_wp2_with fail
    refine (eqFamily_any _ _ _ _ _ _ zs' zs' _ H16.ints P16.ints hn' hn').mono ?_
    rintro e w18 ⟨rfl, hb18⟩
    rw [sameF_self]
    have G18 := G16.step hb18
    have S18 := S16.step hb18
    clear P16 G16 S16 H16 hb18 x0 x1
    have y0 := G18.x0
    have y1 := G18.x1
    go_wp2_with fail
    refine (heldFamily_any _ _ _ _ _ G18.ints hn').mono ?_
    rintro e w19 ⟨rfl, hb19⟩
    have S19 := S18.step hb19
    clear G18 S18 hb19 y0 y1
    go_wp2
    go_ret
    exact ⟨rfl, S19.below⟩

end Go.Proofs.Ytckbhhaigpajpaa
