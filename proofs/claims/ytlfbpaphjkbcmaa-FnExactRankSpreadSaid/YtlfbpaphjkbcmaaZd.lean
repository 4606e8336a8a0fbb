/- It is proved that the call of the law FnExactFamilySizes returns true, given what the two functions return; conditions: those of each statement. -/
import Derived.Test.YtlfbpaphjkbcmaaRows
import Derived.WalkKit
import Derived.WalkSpells
import Derived.ProofKit
import Derived.OpenShut
import Derived.ShutString
import Derived.ChangeOld
import Derived.Below
import Derived.Deep.RegionHeld3
import Derived.Deep.QuietTactic
import Derived.BigQuiet
import Derived.Lib.Hide
import Derived.Lib.SmallJoins
import Derived.Outline
import Derived.Laws.MakeOwn
import Derived.Laws.OwnMore
import Derived.IntWalk
import Derived.RangeFuncNested
import Derived.RangeFuncBound
import Derived.RangeFuncCalls
import Derived.RangeFuncLeaves
import Derived.RangeFuncBox
import Derived.Shelf.Abstract
import Derived.Shelf.RegionOpen
import Derived.OwnWalkIn
import Derived.TacticsInMore
import Derived.LoopNIn
import Derived.LoopIn
import Derived.Maps.AppendAt
import Derived.Deep.AppendLies
import Derived.OwnWalk
import Derived.Test.YtlfbpaphjkbcmaaB
import Derived.Test.YtlfbpaphjkbcmaaC
import Derived.Test.YtlfbpaphjkbcmaaE
import Derived.Test.YtlfbpaphjkbcmaaF
import Derived.Test.YtlfbpaphjkbcmaaH
import Derived.Test.YtlfbpaphjkbcmaaK
import Derived.Test.YtlfbpaphjkbcmaaL
import Derived.Test.YtlfbpaphjkbcmaaP
import Derived.Test.YtlfbpaphjkbcmaaZb
namespace Go.Proofs.Ytlfbpaphjkbcmaa
open Go.RowKit

/-- A list of ints of the call's own, in a block of lo, .., hi - 1 (or nil). -/
structure XO (lo hi : Nat) (a : Option Addr) (n cap : Nat) (zs : List Int) (W : World) : Prop where
  own : OwnN W lo a n cap zs
  rng : ∀ g, (Value.slice a n cap).ownBlock = some g → lo ≤ g ∧ g < hi
  size : hi ≤ W.heap.size

theorem XO.ints {lo hi : Nat} {a : Option Addr} {n cap : Nat} {zs : List Int} {W : World} (h : XO lo hi a n cap zs W) : Ints W W.heap.size a zs := by
  have h1 := h.own
  have hl : zs.length = n := by have := h1.1; simpa using this
  subst hl
  exact own_ints (n := zs.length) (cap := cap) (B := lo) h1

theorem XO.kept {lo hi : Nat} {a : Option Addr} {n cap : Nat} {zs : List Int} {W W' : World} {row : Option Nat} (h : XO lo hi a n cap zs W) (hg : W.grownBy W' row) (hr : ∀ g, row = some g → g < lo ∨ hi ≤ g) : XO lo hi a n cap zs W' := by
  refine ⟨World.ownsRow.kept h.own hg ?_, h.rng, Nat.le_trans h.size hg.size⟩
  cases ho : (Value.slice a n cap).ownBlock with
  | none => exact .inl rfl
  | some g =>
    right
    intro e
    have h1 := h.rng g ho
    have h2 := hr g e.symm
    omega

theorem XO.step {lo hi : Nat} {a : Option Addr} {n cap : Nat} {zs : List Int} {W W' : World} (h : XO lo hi a n cap zs W) (hb : Below W.heap.size W W') : XO lo hi a n cap zs W' :=
  h.kept (only_of_below hb none) (fun g e => by cases e)

theorem XO.drew {lo hi : Nat} {a : Option Addr} {n cap : Nat} {zs : List Int} {W : World} (h : XO lo hi a n cap zs W) : XO lo hi a n cap zs W.drew := ⟨h.own, h.rng, h.size⟩
theorem XO.marked {lo hi : Nat} {a : Option Addr} {n cap : Nat} {zs : List Int} {W W' : World} (h : XO lo hi a n cap zs W) (ho : OwnI W' lo (.slice a n cap) (marks n)) (hg : W.grownBy W' (Value.slice a n cap).ownBlock) : XO lo hi a n cap (marks n) W' := by
  refine ⟨?_, h.rng, Nat.le_trans h.size hg.size⟩
  have := ho
  unfold OwnI at this
  rwa [marks_length] at this

theorem XO.start {w : World} {lo : Nat} {a : Option Addr} {cap : Nat} {zs : List Int} (ho : OwnI w lo (.slice a zs.length cap) zs) : XO lo w.heap.size a zs.length cap zs w :=
  ⟨ho, fun g e => World.ownsRow.lt ho g e, Nat.le_refl _⟩

theorem XO.ownI {lo hi : Nat} {a : Option Addr} {cap : Nat} {zs : List Int} {W : World} (h : XO lo hi a zs.length cap zs W) : OwnI W lo (.slice a zs.length cap) zs := h.own
theorem sameB_self (zs : List Int) : sameB zs zs = true := by simp [sameB]
set_option maxRecDepth 100000 in
set_option maxHeartbeats 4000000 in
theorem walkSizes (m : Int) (a : Option Addr) (cap : Nat) (zs : List Int) (zs' : List Int) (ok : Bool) (w : World) (ha : Ints w w.heap.size a zs) (hn : zs.length ≤ 1048576) (hn' : zs'.length ≤ 1048576)
    (hS : ∀ a cap W, Ints W W.heap.size a zs → Calls Try.prog 9 #[.agg #[.int .i64 m, .slice a zs.length cap]] W (RetSB W zs' ok))
    (hI : ∀ a cap W, Ints W W.heap.size a zs → Calls Try.prog 11 #[.agg #[.int .i64 m, .slice a zs.length cap]] W (RetSB W zs' ok)) :
    Calls Try.prog 3 #[.agg #[.int .i64 m, .slice a zs.length cap]] w fun e w' => e = .returned (.bool true) ∧ Below w.heap.size w w' := by
  have HS := Lib.hid hS
  have HI := Lib.hid hI
  have S0 := AF.start w m a cap zs ha
  clear hS hI
  cases ok
  all_goals
    go_enter Try.func3, Try.ntmps3
    go_wp2_with fail
    refine (szFamily_any _ _ _ _ _ _ (by omega) (by omega) (by omega)).mono ?_
    rintro e w0 ⟨rfl, hb0⟩
    rw [if_neg (by omega)]
    have S1 := S0.step hb0
    clear S0 hb0
    have x0 := S1.x0
    have x1 := S1.x1
    go_wp2_with fail
    refine (toFamily_any _ _ _ zs _ S1.old hn).mono ?_
    rintro e w1 ⟨a1, c1, rfl, ho1, hb1⟩
    have S2 := S1.step hb1
    clear S1 hb1 x0 x1
    go_wp2_with fail
    refine (HS.out _ _ _ (own_ints ho1)).mono ?_
    rintro e w2 ⟨a2, c2, rfl, ho2, hb2⟩
    have P3 := XO.start ho2
    have S3 := S2.step hb2
    have S3size := S3.size
    have x0 := S3.x0
    have x1 := S3.x1
    clear S2 hb2 ho1 ho2
    go_wp2_with fail
    refine (toFamily_any _ _ _ zs _ S3.old hn).mono ?_
    rintro e w4 ⟨a4, c4, rfl, ho4, hb4⟩
    have z4 : w2.heap.size ≤ w4.heap.size := hb4.size
    have X5 := XB.start (m := m) ho4
    have P5 := (P3.step hb4).step (below1 w4 (.cells #[.int .i64 m, .slice a4 zs.length c4] 28))
    have S5 := (S3.step hb4).step (below1 w4 (.cells #[.int .i64 m, .slice a4 zs.length c4] 28))
    clear S3 P3 hb4 ho4 x0 x1
    go_wp2_with fail
    refine (HI.out _ _ _ X5.ints).mono ?_
    rintro e w6 ⟨a6, c6, rfl, ho6, hb6⟩
    have z6 : w4.heap.size + 1 ≤ w6.heap.size := by have := hb6.size; simpa using this
    have ho6' : OwnI w6 (w4.heap.size + 1) (.slice a6 zs'.length c6) zs' := by simpa using ho6
    have G6 := XO.start ho6'
    have P6 := P5.step hb6
    have X6 := X5.step hb6
    have S6 := S5.step hb6
    clear S5 P5 X5 hb6 ho6 ho6'
    go_wp2_with fail
    refine (eqIntS_any _ _ _ _ zs' zs' _ G6.ints P6.ints hn' hn').mono ?_
    rintro e w8 ⟨rfl, hb8⟩
    rw [sameB_self]
    have P8 := P6.step hb8
    have X8 := X6.step hb8
    have G8 := G6.step hb8
    have S8 := S6.step hb8
    clear P6 X6 G6 S6 hb8
    have x0 := S8.x0
    have x1 := S8.x1
    have y0 := X8.x0
    have y1 := X8.x1
    go_wp2_with fail
    have Sd := S8.drew
    have Pd := P8.drew
    have Xd := X8.drew
    have Gd := G8.drew
    clear S8 P8 X8 G8
    go_region_held3 (fun w' => w'.cell? ⟨w.heap.size, 0, none⟩ = some (.int .i64 m) ∧ w'.cell? ⟨w.heap.size, 1, none⟩ = some (.slice a zs.length cap) ∧ w'.cell? ⟨w4.heap.size, 0, none⟩ = some (.int .i64 m) ∧ w'.cell? ⟨w4.heap.size, 1, none⟩ = some (.slice a4 zs.length c4) ∧
        AF w m a cap zs w' ∧ XO w1.heap.size w2.heap.size a2 zs'.length c2 zs' w' ∧ XB w4.heap.size w2.heap.size w4.heap.size m a4 zs.length c4 zs w' ∧ XO (w4.heap.size + 1) w6.heap.size a6 zs'.length c6 zs' w')
      (first
        | exact ⟨Sd.x0, Sd.x1, Xd.x0, Xd.x1, Sd, Pd, Xd, Gd⟩
        | exact ⟨(Sd.step hb9).x0, (Sd.step hb9).x1, (Xd.step hb9).x0, (Xd.step hb9).x1, Sd.step hb9, Pd.step hb9, Xd.step hb9, Gd.step hb9⟩
        | exact ⟨((Sd.step hb9).step hb10).x0, ((Sd.step hb9).step hb10).x1, ((Xd.step hb9).step hb10).x0, ((Xd.step hb9).step hb10).x1, (Sd.step hb9).step hb10, (Pd.step hb9).step hb10, (Xd.step hb9).step hb10, (Gd.step hb9).step hb10⟩)
      (first
        | (go_at_call 10; refine (toFamily_any _ _ _ zs _ Sd.old hn).mono ?_; rintro e w9 ⟨a9, c9, rfl, ho9, hb9⟩)
        | (go_at_call 13; refine (eqFamily_any _ _ _ _ _ _ zs zs _ (Xd.step hb9).ints (own_ints ho9) hn hn).mono ?_; rintro e w10 ⟨rfl, hb10⟩; rw [sameF_self]))
    rename_i hHeld
    obtain ⟨-, -, -, -, S10, P10, X10, G10⟩ := hHeld
    clear Sd Pd Xd Gd hb9 hb10 ho9 x0 x1 y0 y1
    have y0 := X10.x0
    have y1 := X10.x1
    go_wp2_with fail
    refine (markFamily_any _ _ _ _ zs _ X10.ownI hn).mono ?_
    rintro e w11 ⟨rfl, ho11, hg11⟩
    have r11 := X10.rng
    have S11 := S10.kept hg11 (fun g e => by have := r11 g e; omega)
    have P11 := P10.kept hg11 (fun g e => by have := r11 g e; omega)
    have G11 := G10.kept hg11 (fun g e => by have := r11 g e; omega)
    clear S10 P10 G10 X10 ho11 hg11 r11 y0 y1
    go_wp2_with fail
    refine (eqIntS_any _ _ _ _ zs' zs' _ G11.ints P11.ints hn' hn').mono ?_
    rintro e w12 ⟨rfl, hb12⟩
    rw [sameB_self]
    have P12 := P11.step hb12
    have G12 := G11.step hb12
    have S12 := S11.step hb12
    clear P11 G11 S11 hb12
    go_wp2_with fail
    refine (markIntS_any _ _ _ zs' _ G12.ownI hn').mono ?_
    rintro e w13 ⟨rfl, ho13, hg13⟩
    have r13 := G12.rng
    have S13 := S12.kept hg13 (fun g e => by have := r13 g e; omega)
    have P13 := P12.kept hg13 (fun g e => by have := r13 g e; omega)
    have G13 := G12.marked ho13 hg13
    clear S12 P12 G12 ho13 hg13 r13
    go_wp2_with fail
    refine (heldIntS_any _ _ _ _ _ G13.ints hn').mono ?_
    rintro e w14 ⟨rfl, rfl⟩
    have x0 := S13.x0
    have x1 := S13.x1
    go_wp2_with fail
    refine (toFamily_any _ _ _ zs _ S13.old hn).mono ?_
    rintro e w15 ⟨a15, c15, rfl, ho15, hb15⟩
    have P15 := P13.step hb15
    have G15 := G13.step hb15
    have S15 := S13.step hb15
    clear P13 G13 S13 hb15 x0 x1
    go_wp2_with fail
    refine (HI.out _ _ _ (own_ints ho15)).mono ?_
    rintro e w16 ⟨a16, c16, rfl, ho16, hb16⟩
    have P16 := P15.step hb16
    have G16 := G15.step hb16
    have S16 := S15.step hb16
    have H16 := XO.start ho16
    clear P15 G15 S15 hb16 ho15 ho16
    go_wp2_with fail
    refine (eqIntS_any _ _ _ _ zs' zs' _ H16.ints P16.ints hn' hn').mono ?_
    rintro e w18 ⟨rfl, hb18⟩
    rw [sameB_self]
    have G18 := G16.step hb18
    have S18 := S16.step hb18
    clear P16 G16 S16 H16 hb18
    go_wp2_with fail
    refine (heldIntS_any _ _ _ _ _ G18.ints hn').mono ?_
    rintro e w19 ⟨rfl, rfl⟩
    have HD := Lib.hid S18.below
    clear G18 S18
    go_wp2
    go_ret
    exact ⟨rfl, HD.out⟩

end Go.Proofs.Ytlfbpaphjkbcmaa
