/- It is proved that the call of the law FnExactFamilyNamed returns true, given what the two functions return; conditions: those of each statement. -/
import Derived.Test.YticgojhljmgplaaDoorNh
namespace Go.Proofs.YticgojhljmgplaaDoor
open Go.RowKit

set_option maxRecDepth 100000 in
set_option maxHeartbeats 6000000 in
theorem walkNamed (m : Int) (a b : Option Addr) (cap dap : Nat) (zs ps : List Int) (m' : Int) (zs' : List Int) (ok : Bool) (w : World) (ha : Ints w w.heap.size a zs) (hb : Ints w w.heap.size b ps) (hn : zs.length ≤ 1048576) (hnp : ps.length ≤ 1048576) (hn' : zs'.length ≤ 1048576)
    (hS : ∀ a cap b dap W, Ints W W.heap.size a zs → Ints W W.heap.size b ps → Calls Tryd.prog 22 #[.agg #[.int .i64 m, .slice a zs.length cap], .slice b ps.length dap] W (RetFB W m' zs' ok))
    (hT : Tab w) (hI : ∀ a cap b dap W, Ints W W.heap.size a zs → Ints W W.heap.size b ps → Tab W → Calls Tryd.prog 24 #[.agg #[.int .i64 m, .slice a zs.length cap], .slice b ps.length dap] W (RetFB W m' zs' ok)) :
    Calls Tryd.prog 6 #[.agg #[.int .i64 m, .slice a zs.length cap], .slice b ps.length dap] w fun e w' => e = .returned (.bool true) ∧ Below w.heap.size w w' := by
  have HS := Lib.hid hS
  have HI := Lib.hid hI
  have HT := Lib.hid hT
  have S0 := AF.start w m a cap zs ha
  have OP : Hid (∀ W, AF w m a cap zs W → Ints W W.heap.size b ps) := Lib.hid (fun W h => (hb.below h.below).mono (by have := h.size; omega))
  clear hS hI hT hb
  cases ok
  all_goals
    go_enter Tryd.func6, Tryd.ntmps6
    go_wp2_with fail
    refine (szFamily_any _ _ _ _ _ _ (by omega) (by omega) (by omega)).mono ?_
    rintro e w0 ⟨rfl, hb0⟩
    rw [if_neg (by omega)]
    have S1 := S0.step hb0
    clear S0 hb0
    have x0 := S1.x0
    have x1 := S1.x1
    go_wp2_with fail
    refine (toFamily_any _ _ _ zs _ S1.old hn).mono ?_
    rintro e w1 ⟨a1, c1, rfl, ho1, hb1⟩
    have S2 := S1.step hb1
    have s2z := S2.size
    clear S1 hb1 x0 x1
    go_wp2_with fail
    refine (toIntS_any _ _ ps _ (OP.out _ S2) hnp).mono ?_
    rintro e v1 ⟨b1, d1, rfl, hop1, hbp1⟩
    have I1 := ((own_ints ho1).below hbp1).mono hbp1.size
    have S2b := S2.step hbp1
    have s2bz := S2b.size
    clear S2 hbp1 ho1
    go_wp2_with fail
    refine (HS.out _ _ _ _ _ I1 (own_ints hop1)).mono ?_
    rintro e w2 ⟨a2, c2, rfl, ho2, hb2⟩
    have P3 := XB.start (m := m') ho2
    have S2' := S2b.step hb2
    have S2'size := S2'.size
    have S3 := S2'.step (below1 w2 (.cells #[.int .i64 m', .slice a2 zs'.length c2] 25))
    have x0 := S3.x0
    have x1 := S3.x1
    have zv1 : v1.heap.size ≤ w2.heap.size := hb2.size
    clear S2b S2' hb2 ho2 hop1 I1
    go_wp2_with fail
    refine (toFamily_any _ _ _ zs _ S3.old hn).mono ?_
    rintro e w4 ⟨a4, c4, rfl, ho4, hb4⟩
    have S4 := S3.step hb4
    have P4 := P3.step hb4
    have z4 : w2.heap.size + 1 ≤ w4.heap.size := by have := hb4.size; simpa using this
    have ho4' : OwnI w4 (w2.heap.size + 1) (.slice a4 zs.length c4) zs := by simpa using ho4
    have X4 := XB.start (m := m) ho4'
    have P4b := P4.step (below1 w4 (.cells #[.int .i64 m, .slice a4 zs.length c4] 25))
    have S4b := S4.step (below1 w4 (.cells #[.int .i64 m, .slice a4 zs.length c4] 25))
    clear S3 S4 P3 P4 hb4 ho4 ho4' x0 x1
    go_wp2_with fail
    refine (toIntS_any _ _ ps _ (OP.out _ S4b) hnp).mono ?_
    rintro e w5 ⟨b5, d5, rfl, hop5, hb5⟩
    have z5 : w4.heap.size + 1 ≤ w5.heap.size := by have := hb5.size; simpa using this
    have hop5' : OwnI w5 (w4.heap.size + 1) (.slice b5 ps.length d5) ps := by simpa using hop5
    have Q5 := XO.start hop5'
    have X5 := X4.step hb5
    have P5 := P4b.step hb5
    have S5 := S4b.step hb5
    have y0 := X5.x0
    have y1 := X5.x1
    clear X4 P4b S4b hb5 hop5 hop5'
    go_wp2_with fail
    refine (HI.out _ _ _ _ _ X5.ints Q5.ints (HT.out.below S5.below HT.out.lt)).mono ?_
    rintro e w6 ⟨a6, c6, rfl, ho6, hb6⟩
    have z6 : w5.heap.size ≤ w6.heap.size := hb6.size
    have G6 := XB.start (m := m') ho6
    have P6 := P5.step hb6
    have X6 := X5.step hb6
    have Q6 := Q5.step hb6
    have S6 := S5.step hb6
    have P7 := P6.step (below1 w6 (.cells #[.int .i64 m', .slice a6 zs'.length c6] 25))
    have X7 := X6.step (below1 w6 (.cells #[.int .i64 m', .slice a6 zs'.length c6] 25))
    have Q7 := Q6.step (below1 w6 (.cells #[.int .i64 m', .slice a6 zs'.length c6] 25))
    have S7 := S6.step (below1 w6 (.cells #[.int .i64 m', .slice a6 zs'.length c6] 25))
    clear S5 S6 P5 P6 X5 X6 Q5 Q6 hb6 ho6 y0 y1
    have y0 := P7.x0
    have y1 := P7.x1
    go_wp2_with fail
    refine (eqFamily_any _ _ _ _ _ _ zs' zs' _ G6.ints P7.ints hn' hn').mono ?_
    rintro e w8 ⟨rfl, hb8⟩
    rw [sameF_self]
    have P8 := P7.step hb8
    have X8 := X7.step hb8
    have Q8 := Q7.step hb8
    have G8 := G6.step hb8
    have S8 := S7.step hb8
    clear P7 X7 Q7 G6 S7 hb8 y0 y1
    have x0 := S8.x0
    have x1 := S8.x1
    have y0 := X8.x0
    have y1 := X8.x1
    go_wp2_with fail
    have Sd := S8.drew
    have Pd := P8.drew
    have Xd := X8.drew
    have Qd := Q8.drew
    have Gd := G8.drew
    clear S8 P8 X8 Q8 G8
    go_region_held3 (fun w' => w'.cell? ⟨w.heap.size, 0, none⟩ = some (.int .i64 m) ∧ w'.cell? ⟨w.heap.size, 1, none⟩ = some (.slice a zs.length cap) ∧ w'.cell? ⟨w4.heap.size, 0, none⟩ = some (.int .i64 m) ∧ w'.cell? ⟨w4.heap.size, 1, none⟩ = some (.slice a4 zs.length c4) ∧
        AF w m a cap zs w' ∧ XB w2.heap.size v1.heap.size w2.heap.size m' a2 zs'.length c2 zs' w' ∧ XB w4.heap.size (w2.heap.size + 1) w4.heap.size m a4 zs.length c4 zs w' ∧ XB w6.heap.size w5.heap.size w6.heap.size m' a6 zs'.length c6 zs' w' ∧ XO (w4.heap.size + 1) w5.heap.size b5 ps.length d5 ps w')
      (first
        | exact ⟨Sd.x0, Sd.x1, Xd.x0, Xd.x1, Sd, Pd, Xd, Gd, Qd⟩
        | exact ⟨(Sd.step hb9).x0, (Sd.step hb9).x1, (Xd.step hb9).x0, (Xd.step hb9).x1, Sd.step hb9, Pd.step hb9, Xd.step hb9, Gd.step hb9, Qd.step hb9⟩
        | exact ⟨((Sd.step hb9).step hb10).x0, ((Sd.step hb9).step hb10).x1, ((Xd.step hb9).step hb10).x0, ((Xd.step hb9).step hb10).x1, (Sd.step hb9).step hb10, (Pd.step hb9).step hb10, (Xd.step hb9).step hb10, (Gd.step hb9).step hb10, (Qd.step hb9).step hb10⟩)
      (first
        | (go_at_call 14; refine (toFamily_any _ _ _ zs _ Sd.old hn).mono ?_; rintro e w9 ⟨a9, c9, rfl, ho9, hb9⟩)
        | (go_at_call 17; refine (eqFamily_any _ _ _ _ _ _ zs zs _ (Xd.step hb9).ints (own_ints ho9) hn hn).mono ?_; rintro e w10 ⟨rfl, hb10⟩; rw [sameF_self]))
    rename_i hHeld
    obtain ⟨-, -, -, -, S10, P10, X10, G10, Q10⟩ := hHeld
    clear Sd Pd Xd Gd Qd hb9 hb10 ho9 x0 x1 y0 y1
    go_wp2_with fail
    refine (toIntS_any _ _ ps _ (OP.out _ S10) hnp).mono ?_
    rintro e u1 ⟨b10, d10, rfl, hop10, hbu1⟩
    have P10b := P10.step hbu1
    have X10b := X10.step hbu1
    have Q10b := Q10.step hbu1
    have G10b := G10.step hbu1
    have S10b := S10.step hbu1
    clear P10 X10 Q10 G10 S10 hbu1
    go_wp2_with fail
    refine (eqIntS_any _ _ _ _ ps ps _ Q10b.ints (own_ints hop10) hnp hnp).mono ?_
    rintro e u2 ⟨rfl, hbu2⟩
    rw [sameB_self]
    have P10c := P10b.step hbu2
    have X10c := X10b.step hbu2
    have Q10c := Q10b.step hbu2
    have G10c := G10b.step hbu2
    have S10c := S10b.step hbu2
    clear P10b X10b Q10b G10b S10b hbu2 hop10
    have y0 := X10c.x0
    have y1 := X10c.x1
    go_wp2_with fail
    refine (markFamily_any _ _ _ _ zs _ X10c.ownI hn).mono ?_
    rintro e w11 ⟨rfl, ho11, hg11⟩
    have r11 := X10c.rng
    have S11 := S10c.kept hg11 (fun g e => by have := r11 g e; omega)
    have P11 := P10c.kept hg11 (fun g e => by have := r11 g e; omega)
    have Q11 := Q10c.kept hg11 (fun g e => by have := r11 g e; omega)
    have G11 := G10c.kept hg11 (fun g e => by have := r11 g e; omega)
    clear S10c P10c Q10c G10c X10c ho11 hg11 r11 y0 y1
    rw [show (zs.length : Int) + 1 = ((zs.length + 1 : Nat) : Int) from by omega]
    go_wp2_with fail
    refine (markIntS_from _ _ _ (zs.length + 1) ps _ Q11.ownI hnp (by omega)).mono ?_
    rintro e u3 ⟨rfl, hgu3⟩
    have ru3 := Q11.rng
    have S11b := S11.kept hgu3 (fun g e => by have := ru3 g e; omega)
    have P11b := P11.kept hgu3 (fun g e => by have := ru3 g e; omega)
    have G11b := G11.kept hgu3 (fun g e => by have := ru3 g e; omega)
    clear S11 P11 Q11 G11 hgu3 ru3
    have x0 := P11b.x0
    have x1 := P11b.x1
    have y0 := G11b.x0
    have y1 := G11b.x1
    have hkk : (0 : Int) ≤ ((zs.length + 1 : Nat) : Int) + (ps.length : Int) := by omega
    go_wp2_with fail
    refine (eqFamily_any _ _ _ _ _ _ zs' zs' _ G11b.ints P11b.ints hn' hn').mono ?_
    rintro e w12 ⟨rfl, hb12⟩
    rw [sameF_self]
    have P12 := P11b.step hb12
    have G12 := G11b.step hb12
    have S12 := S11b.step hb12
    clear P11b G11b S11b hb12 x0 x1 y0 y1
    have y0 := G12.x0
    have y1 := G12.x1
    go_wp2_with fail
    refine (markFamily_any _ _ _ _ zs' _ G12.ownI hn').mono ?_
    rintro e w13 ⟨rfl, ho13, hg13⟩
    have r13 := G12.rng
    have S13 := S12.kept hg13 (fun g e => by have := r13 g e; omega)
    have P13 := P12.kept hg13 (fun g e => by have := r13 g e; omega)
    have G13 := G12.marked ho13 hg13
    clear S12 P12 G12 ho13 hg13 r13 y0 y1
    have y0 := G13.x0
    have y1 := G13.x1
    go_wp2_with fail
    refine (heldFamily_any _ _ _ _ _ G13.ints hn').mono ?_
    rintro e w14 ⟨rfl, hb14⟩
    have P14 := P13.step hb14
    have G14 := G13.step hb14
    have S14 := S13.step hb14
    clear P13 G13 S13 hb14 y0 y1
    have x0 := S14.x0
    have x1 := S14.x1
    go_wp2_with fail
    refine (toFamily_any _ _ _ zs _ S14.old hn).mono ?_
    rintro e w15 ⟨a15, c15, rfl, ho15, hb15⟩
    have P15 := P14.step hb15
    have G15 := G14.step hb15
    have S15 := S14.step hb15
    clear P14 G14 S14 hb15 x0 x1
    go_wp2_with fail
    refine (toIntS_any _ _ ps _ (OP.out _ S15) hnp).mono ?_
    rintro e u4 ⟨b15, d15, rfl, hop15, hbu4⟩
    have I15 := ((own_ints ho15).below hbu4).mono hbu4.size
    have P15b := P15.step hbu4
    have G15b := G15.step hbu4
    have S15b := S15.step hbu4
    clear P15 G15 S15 hbu4 ho15
    go_wp2_with fail
    refine (HI.out _ _ _ _ _ I15 (own_ints hop15) (HT.out.below S15b.below HT.out.lt)).mono ?_
    rintro e w16 ⟨a16, c16, rfl, ho16, hb16⟩
    have P16 := (P15b.step hb16).step (below1 w16 (.cells #[.int .i64 m', .slice a16 zs'.length c16] 25))
    have G16 := (G15b.step hb16).step (below1 w16 (.cells #[.int .i64 m', .slice a16 zs'.length c16] 25))
    have S16 := (S15b.step hb16).step (below1 w16 (.cells #[.int .i64 m', .slice a16 zs'.length c16] 25))
    have H16 := XB.start (m := m') ho16
    have x0 := P16.x0
    have x1 := P16.x1
    clear P15b G15b S15b hb16 hop15 I15 ho16
    go_wp2_with fail
    refine (eqFamily_any _ _ _ _ _ _ zs' zs' _ H16.ints P16.ints hn' hn').mono ?_
    rintro e w18 ⟨rfl, hb18⟩
    rw [sameF_self]
    have G18 := G16.step hb18
    have S18 := S16.step hb18
    clear P16 G16 S16 H16 hb18 x0 x1
    have y0 := G18.x0
    have y1 := G18.x1
    go_wp2_with fail
    refine (heldFamily_any _ _ _ _ _ G18.ints hn').mono ?_
    rintro e w19 ⟨rfl, hb19⟩
    have S19 := S18.step hb19
    clear G18 S18 hb19 y0 y1
    go_wp2
    go_ret
    exact ⟨rfl, S19.below⟩
end Go.Proofs.YticgojhljmgplaaDoor
