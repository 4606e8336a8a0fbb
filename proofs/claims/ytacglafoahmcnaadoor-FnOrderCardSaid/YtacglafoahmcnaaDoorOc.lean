/- It is proved that the calls of FnOrder return true; conditions: those of each statement. -/
import Derived.RowKit
import Derived.Laws.CopyRow
import Derived.Lib.SlBuf
import Derived.Deep.QuietTactic
import Derived.RangeFuncNested
import Derived.RangeFuncBound
import Derived.RangeFuncCalls
import Derived.RangeFuncLeaves
import Derived.RangeFuncBox
import Derived.RangeFuncWrites
import Derived.StillTailTactics
import Derived.Maps.OwnIn
import Derived.Maps.Ext
import Derived.DeepKeys4
import Derived.MapKept
import Derived.Test.YtacglafoahmcnaaDoorRows
import Derived.WalkKit
import Derived.WalkSpells
import Derived.ProofKit
import Derived.OpenShut
import Derived.ShutString
import Derived.ChangeOld
import Derived.Below
import Derived.Deep.RegionHeld3
import Derived.BigQuiet
import Derived.Lib.Hide
import Derived.Lib.SmallJoins
import Derived.Outline
import Derived.Laws.MakeOwn
import Derived.Laws.OwnMore
import Derived.IntWalk
import Derived.Maps.AppendAt
import Derived.Sort.MapsRangeIn
import Derived.Deep.RegionLaw
import Derived.Deep.AppendLies
import Derived.Lib.AppendZeros
import Derived.OwnWalk
import Derived.Lib.SlicesCompact
import Derived.Lib.OwnBridge
import Derived.OrdersIn
import Derived.TacticsIn
import Derived.Orders
import Derived.Tactics
import Derived.Shelf.Sort.Plain
import Derived.Shelf.Slices.In.SortNone
import Derived.Shelf.Slices.CompactI
import Derived.Ground.Names2Prog
import Derived.Lib.SliceRun
import Derived.Laws.BitsAllLaws
import Derived.Shelf.RegionOpen
import Derived.Shelf.Abstract
import Derived.OwnWalkIn
import Derived.TacticsInMore
import Derived.LoopNIn
import Derived.LoopIn
import Derived.StillTail
import Derived.StillTactics
import Derived.Shelf.Spec.TrailingZeros
import Derived.Deep.LoopGhost
import Derived.Test.YtacglafoahmcnaaDoorRaah
import Derived.Test.YtacglafoahmcnaaDoorRaal
import Derived.Test.YtacglafoahmcnaaDoorRaazxFnOrde
import Derived.Test.YtacglafoahmcnaaDoorRaaa
import Derived.Test.YtacglafoahmcnaaDoorRaac
import Derived.Test.YtacglafoahmcnaaDoorDb
import Derived.Test.YtacglafoahmcnaaDoorRaap
import Derived.Test.YtacglafoahmcnaaDoorRaaq
import Derived.Test.YtacglafoahmcnaaDoorRaaw
import Derived.Test.YtacglafoahmcnaaDoorRaag
import Derived.Test.YtacglafoahmcnaaDoorRaad
import Derived.Test.YtacglafoahmcnaaDoorRaam
import Derived.Test.YtacglafoahmcnaaDoorRabaxFnOrde
import Derived.Test.YtacglafoahmcnaaDoorRabfxFnOrde
import Derived.Test.YtacglafoahmcnaaDoorRaab
import Derived.Test.YtacglafoahmcnaaDoorRaae
import Derived.Test.YtacglafoahmcnaaDoorYa
import Derived.Test.YtacglafoahmcnaaDoorRabbxFnOrde
import Derived.Test.YtacglafoahmcnaaDoorRabgxFnOrde
import Derived.Test.YtacglafoahmcnaaDoorRabhxFnOrde
import Derived.Test.YtacglafoahmcnaaDoorRabcxFnOrde
import Derived.Test.YtacglafoahmcnaaDoorRabdxFnOrde
import Derived.Test.YtacglafoahmcnaaDoorRaat
namespace Go.Proofs.YtacglafoahmcnaaDoor
open Go.RowKit

structure FoRel (W0 : World) (k : Nat) (gs : List Int) (A9 : Option Addr) (C9 AD : Nat) (l8 l9 l10 l12 l13 : Bool) (W : World) : Prop where
  r1 : Below W0.heap.size W0 W
  r2 : l12 = true → W0.heap.size ≤ AD ∧ HasBlk W AD #[bif l13 then .int .i64 (k : Int) else .int .i64 0, bif l13 then .slice A9 gs.length C9 else .slice none 0 0] 25
  r3 : l8 = true → Ints W W.heap.size A9 gs ∧ (l12 = true → gs ≠ [] → ∀ b o, A9 = some ⟨b, o, none⟩ → b ≠ AD)
  r4 : l13 = true → l12 = true ∧ l8 = true
  r5 : l9 = true → l8 = true
  r6 : l10 = true → l9 = true

theorem arr15 (l : Array Bool) (h : l.size = 15) : ∃ l0 l1 l2 l3 l4 l5 l6 l7 l8 l9 l10 l11 l12 l13 l14, l = #[l0, l1, l2, l3, l4, l5, l6, l7, l8, l9, l10, l11, l12, l13, l14] := by
  obtain ⟨l⟩ := l
  match l, h with
  | [l0, l1, l2, l3, l4, l5, l6, l7, l8, l9, l10, l11, l12, l13, l14], _ => exact ⟨l0, l1, l2, l3, l4, l5, l6, l7, l8, l9, l10, l11, l12, l13, l14, rfl⟩

theorem mem_fk_fin : ∀ k : Fin 7, (memK 6 (2 ^ k.val - 1)).length = k.val := by decide +kernel
theorem gr_len_zero {m : Nat} (hm : m ≤ 6) {zs : List Int} (hS : Sets m zs) (h0 : ∀ z ∈ zs, z = 0) : (redZ m zs).length ≤ 1 := by
  have hg : ∀ z ∈ grZ zs, z = 0 := fun z hz => h0 z (gr_sub hz)
  have hd : Done m (grZ zs) := fun v hv hd => by
    obtain ⟨x, hx, hb, -⟩ := hd
    rw [hg x hx] at hb
    unfold Bt at hb
    simp at hb
  rw [← redZ_is hm hS (.refl _) hd]
  have hn := gr_nodup zs
  match hG : grZ zs, hn, hg with
  | [], _, _ => simp
  | [_], _, _ => simp
  | a :: b :: l, hn, hg =>
    have h1 := hg a (by simp)
    have h2 := hg b (by simp)
    subst h1; subst h2
    simp at hn

theorem ex_falls {m : Nat} (hm : m ≤ 6) {zs : List Int} {t : Nat} (h : Ex zs t) : Sets m zs → t < 64 → (∀ z ∈ zs, ∀ v, Bt v z = true → t.testBit v = true) → (redZ m zs).length ≤ 1 := by
  induction h with
  | nil zs =>
    intro hS _ hin
    refine gr_len_zero hm hS (fun z hz => ?_)
    have h0 : z.toNat = 0 := by
      apply Nat.eq_of_testBit_eq
      intro i
      rw [Nat.zero_testBit]
      cases hb : z.toNat.testBit i
      · rfl
      · have := hin z hz i hb
        rw [Nat.zero_testBit] at this; cases this
    have := (hS z hz).1
    omega
  | @cons zs t v hv hl _ ih =>
    intro hS ht hin
    have hv6 := bit_six ht hv
    have hS' : Sets m (zs.map (woZ v)) := woZ_sets hS
    have hz64 : ∀ z ∈ zs, z.toNat < 64 := fun z hz => p64 hm (hS z hz).2
    have hih := ih hS' (less_lt ht hv6) (fun z hz u hu => by
      obtain ⟨y, hy, rfl⟩ := List.mem_map.1 hz
      have hu6 : u < 6 := by
        have := bt_lt (hS' _ (List.mem_map.2 ⟨y, hy, rfl⟩)).2 hu
        omega
      rw [woZ_bit (hz64 y hy) hu6 hv6, Bool.and_eq_true] at hu
      rw [less_bit ht hv6 hu6, hin y hy u hu.1, hu.2]; rfl)
    rcases hl with hno | ⟨M, hM, hMv, hsub⟩
    · have e : zs.map (woZ v) = zs := by
        have : ∀ z ∈ zs, woZ v z = z := fun z hz => woZ_same (hS z hz).1 (hz64 z hz) hv6 (hno z hz)
        rw [List.map_congr_left this, List.map_id']
      rwa [e] at hih
    · have hvm := bt_lt (hS M hM).2 hMv
      have hMg : M ∈ grZ zs := (gr_mem hm hS M).2 ⟨hM, fun o ho hs => subZ_anti (hS o ho).1 (hS M hM).1 (hsub o ho (subZ_bit hs hMv)) hs⟩
      have hd : D1 v (grZ zs) := ⟨M, hMg, hMv, fun y hy hyv => (((gr_mem hm hS y).1 hy).2 M hM (hsub y (gr_sub hy) hyv)).symm⟩
      obtain ⟨r1, r2⟩ := redF_is hm 7 (grZ (zs.map (woZ v))) (gr_nodup _) (gr_sets hS') (by have := mbN_le (grZ (zs.map (woZ v))); omega)
      have hst : stepZ v (grZ zs) = grZ (zs.map (woZ v)) := gr_map hm hS (woZ v) hS' (fun x _ y _ h => woZ_mono v h)
      have hr : Red m (grZ zs) (redF 7 m (grZ (zs.map (woZ v)))) := .head v hvm hd (by rw [hst]; exact r1)
      rw [← redZ_is hm hS hr r2]
      exact hih

theorem order_facts {m : Int} {zs : List Int} (h : (ordR m zs).isSome = true) : ∃ (k v : Nat), m = (k : Int) ∧ 1 ≤ k ∧ k ≤ 6 ∧ v < k ∧ (ordL m zs).length = k ∧ (ordL m zs)[0]?.getD 0 = (v : Int) ∧ fallsB m (zs.map (woZ v)) = true ∧ Sets k zs ∧ famIn m zs = true := by
  have hf : famIn m zs = true := by
    cases hf : famIn m zs
    · unfold ordR at h; rw [hf] at h; cases h
    · rfl
  obtain ⟨k, rfl, hk1, hk6, hS, h8⟩ := fam_nat2 hf
  have e : ordR (k : Int) zs = ordN 6 zs (2 ^ k - 1) := by unfold ordR; rw [hf, if_pos rfl, Int.toNat_natCast]
  have ht : 2 ^ k - 1 < 64 := by have := Nat.pow_le_pow_right (n := 2) (by decide) hk6; omega
  have h1 : 2 ≤ 2 ^ k := by have := Nat.pow_le_pow_right (n := 2) (by decide) hk1; omega
  obtain ⟨l, hl⟩ := Option.isSome_iff_exists.1 h
  have hL : ordL (k : Int) zs = l := by unfold ordL; rw [hl]; rfl
  rw [e] at hl
  have hlen := ord_len hk6 6 zs _ l hS ht (memK_len 6 _) hl
  have hml : (memK 6 (2 ^ k - 1)).length = k := mem_fk_fin ⟨k, by omega⟩
  have h0 : 2 ^ k - 1 ≠ 0 := by omega
  rw [ord_step, if_neg h0] at hl
  cases hv : (memK 6 (2 ^ k - 1)).find? fun v => leavB v zs with
  | none => rw [hv] at hl; cases hl
  | some v =>
    rw [hv] at hl
    simp only [Option.map_eq_some_iff] at hl
    obtain ⟨l', hl', rfl⟩ := hl
    obtain ⟨hv6, hvt⟩ := mem_six.1 (List.mem_of_find?_eq_some hv)
    have hvk : v < k := by
      rw [Nat.testBit_two_pow_sub_one, decide_eq_true_eq] at hvt
      exact hvt
    have hex := (ord_some hk6 5 (zs.map (woZ v)) (lessP (2 ^ k - 1) v) (woZ_sets hS) (less_lt ht hv6) (by have := less_cnt ht hv6 hvt; have := memK_len 6 (2 ^ k - 1); omega)).1 (by rw [hl']; rfl)
    refine ⟨k, v, rfl, hk1, hk6, hvk, by rw [hL, hlen, hml], by rw [hL]; rfl, ?_, hS, hf⟩
    unfold fallsB
    rw [fam_of hk1 hk6 (by rw [List.length_map]; exact h8) (woZ_sets hS), Int.toNat_natCast, Bool.true_and, Nat.ble_eq]
    refine ex_falls hk6 hex (woZ_sets hS) (less_lt ht hv6) (fun z hz u hu => ?_)
    obtain ⟨y, hy, rfl⟩ := List.mem_map.1 hz
    have hum := bt_lt (woZ_sets (v := v) hS _ (List.mem_map.2 ⟨y, hy, rfl⟩)).2 hu
    rw [woZ_bit (p64 hk6 (hS y hy).2) (by omega) hv6, Bool.and_eq_true] at hu
    rw [less_bit ht hv6 (by omega), hu.2, Nat.testBit_two_pow_sub_one, decide_eq_true hum]
    rfl

theorem wo_pow {k v : Nat} (hk : k ≤ 6) (hv : v < k) : bits BinOp.andNot IntKind.i64 ((2 ^ k - 1 : Nat) : Int) (2 ^ v) = ((woP (2 ^ k - 1) v : Nat) : Int) := wo_at _ _ (by have := Nat.pow_le_pow_right (n := 2) (by decide) hk; omega) (by omega)
theorem specOrder8_any (m : Int) (a : Option Addr) (c : Nat) (zs : List Int) (w : World) (ha : Ints w w.heap.size a zs) (hx : zs.length ≤ 1048576) :
    Calls Tryd.prog 22 #[.agg #[.int .i64 m, .slice a zs.length c]] w (RetSB w (ordL m zs) (ordR m zs).isSome) := specOrder_any m a c zs w ha hx

set_option maxRecDepth 100000 in
set_option maxHeartbeats 8000000 in
theorem walkFnOrder (a : Option Addr) (n cap : Nat) (w : World) (hb : Bys w w.heap.size a n) (hT : Tab w) (hn : n ≤ 1048576) (hc : n ≤ cap) (hc2 : cap ≤ 9223372036854775807) :
    Calls Tryd.prog 5 #[.slice a n cap] w fun e w' => e = .returned (.bool true) ∧ Below w.heap.size w w' := by
  have HBy := Lib.hid hb
  have HT := Lib.hid hT
  clear hb hT
  go_enter Tryd.func5, Tryd.ntmps5
  go_wp2_with fail
  refine (drawEarOrder_any a n cap w HBy.out hn hc hc2).mono ?_
  rintro e w1 ⟨m, a1, zs, c1, rfl, hl, ho1, hb1⟩
  have F1 := FB.start (m := m) (c := c1) (own_ints ho1)
  have B1 := Lib.hid (hb1.trans ((below1 w1 (.cells #[.int .i64 m, .slice a1 zs.length c1] 25)).mono hb1.size))
  have hln : zs.length ≤ 1048576 := by omega
  have f_f_1 := Lib.hid F1
  clear F1 ho1 hb1
  have f_0 := f_f_1.out.x0
  have f_1 := f_f_1.out.x1
  obtain ⟨ys, hys⟩ : ∃ ys, ys = ordL m zs := ⟨_, rfl⟩
  obtain ⟨OK, hOK⟩ : ∃ OK, OK = (ordR m zs).isSome := ⟨_, rfl⟩
  have hyl : ys.length ≤ 1048576 := by rw [hys]; exact ordL_len _ _
  have HI := Lib.hid (fun W hi hT => implOrder_any m a1 c1 zs W hi hT hln)
  have HSP := Lib.hid (fun W hi => specOrder8_any m a1 c1 zs W hi hln)
  have HMT := Lib.hid (fun x W hi => implMeet_any m a1 c1 zs x W hi hln)
  rw [← hys, ← hOK] at HI HSP
  have HFX : Hid (OK = true → ∃ (k v : Nat), m = (k : Int) ∧ 1 ≤ k ∧ k ≤ 6 ∧ v < k ∧ ys.length = k ∧ ys[0]?.getD 0 = (v : Int) ∧ fallsB m (zs.map (woZ v)) = true ∧ Sets k zs ∧ famIn m zs = true) := Lib.hid fun h => by
    rw [hys]
    exact order_facts (by rw [← hOK]; exact h)
  clear hys hOK
  go_wp2_with fail
  refine (HI.out _ f_f_1.out.ints (HT.out.below B1.out HT.out.lt)).mono ?_
  rintro e w2 ⟨a2, c2, rfl, ho2, hb2⟩
  have G2 := Lib.hid (own_ints ho2)
  have B2 := Lib.hid (B1.out.trans (hb2.mono B1.out.size))
  have f_f_2 := Lib.hid (f_f_1.out.step hb2)
  clear ho2 hb2 B1 f_f_1
  clear f_0 f_1
  have f_0 := f_f_2.out.x0
  have f_1 := f_f_2.out.x1
  go_wp2_with fail
  refine (HSP.out _ f_f_2.out.ints).mono ?_
  rintro e w3 ⟨a3, c3, rfl, ho3, hb3⟩
  have G3 := Lib.hid (own_ints ho3)
  have B3 := Lib.hid (B2.out.trans (hb3.mono B2.out.size))
  have f_f_3 := Lib.hid (f_f_2.out.step hb3)
  have l_lo_3 := Lib.hid (G2.out.step hb3)
  clear ho3 hb3 B2 f_f_2 G2
  clear f_0 f_1
  clear HI HSP
  cases OK
  · clear HMT HFX
    go_wp2_with fail
    refine (sameInts_any _ _ _ _ _ _ _ l_lo_3.out G3.out hyl hyl).mono ?_
    rintro e w4 ⟨rfl, hb4⟩
    rw [sameB_refl]
    have B4 := Lib.hid (B3.out.trans (hb4.mono B3.out.size))
    have f_f_4 := Lib.hid (f_f_3.out.step hb4)
    have l_lo_4 := Lib.hid (l_lo_3.out.step hb4)
    have l_lw_4 := Lib.hid (G3.out.step hb4)
    clear hb4 B3 f_f_3 l_lo_3 G3
    go_wp2_with fail
    refine (sameInts_any _ _ _ _ _ _ _ l_lo_4.out l_lw_4.out hyl hyl).mono ?_
    rintro e w5 ⟨rfl, hb5⟩
    rw [sameB_refl]
    have B5 := Lib.hid (B4.out.trans (hb5.mono B4.out.size))
    have f_f_5 := Lib.hid (f_f_4.out.step hb5)
    have l_lo_5 := Lib.hid (l_lo_4.out.step hb5)
    have l_lw_5 := Lib.hid (l_lw_4.out.step hb5)
    clear hb5 B4 f_f_4 l_lo_4 l_lw_4
    go_wp2
    go_ret
    exact ⟨rfl, B5.out⟩
  · obtain ⟨k, v, rfl, hk1, hk6, hvk, e1, e2, e3, hS, hfm⟩ := HFX.out (by trivial)
    clear HFX
    obtain ⟨X, hX⟩ : ∃ X, X = woP (2 ^ k - 1) v := ⟨_, rfl⟩
    have hX64 : X < 2 ^ k := by rw [hX]; have := wo_le (2 ^ k - 1) v; have : 1 ≤ 2 ^ k := Nat.one_le_two_pow; omega
    obtain ⟨gs, hgs⟩ : ∃ gs, gs = zs.map (woZ v) := ⟨_, rfl⟩
    have hmi : meetIn (k : Int) zs (X : Int) = true := by unfold meetIn; rw [hfm, full_nat, Bool.true_and]; exact inB_true (by omega) (by omega)
    have hmz : meetZ (k : Int) zs (X : Int) = gs := by unfold meetZ; rw [hmi, if_pos rfl, hX, and_wo (v := v) hk6 hS (by omega), hgs]
    have hmm : meetM (k : Int) zs (X : Int) = (k : Int) := by unfold meetM; rw [hmi]; rfl
    have HMX : Hid (∀ W, Ints W W.heap.size a1 zs → Calls Tryd.prog 23 #[.agg #[.int .i64 (k : Int), .slice a1 zs.length c1], .int .i64 (X : Int)] W (RetFB W (k : Int) gs true)) := Lib.hid fun W hi => by
      have := HMT.out (X : Int) W hi
      rwa [hmi, hmz, hmm] at this
    have hgl : gs.length ≤ 1048576 := by rw [hgs, List.length_map]; omega
    have HFA : Hid (∀ b d W, Ints W W.heap.size b gs → Tab W → Calls Tryd.prog 25 #[.agg #[.int .i64 (k : Int), .slice b gs.length d]] W fun e w' => e = .returned (.bool true) ∧ Below W.heap.size W w') := Lib.hid fun b d W hi hT => by
      have := implFalls_any (k : Int) b d gs W hi hT hgl
      rwa [hgs, e3, ← hgs] at this
    have HWH : Hid (∀ W, Calls Tryd.prog 24 #[.agg #[.int .i64 (k : Int), .slice a1 zs.length c1]] W fun e w' => e = .returned (.int .i64 ((2 ^ k - 1 : Nat) : Int)) ∧ Below W.heap.size W w') := Lib.hid fun W => by
      have := whole_any (k : Int) a1 zs.length c1 W (by omega) (by omega)
      rwa [full_nat] at this
    have hand : bits BinOp.andNot IntKind.i64 ((2 ^ k - 1 : Nat) : Int) (2 ^ v) = (X : Int) := by rw [hX]; exact wo_pow hk6 hvk
    have hmx : Tryd.prog.follows .mixedOrders = true := by kernel_rfl
    have hp2 := p2_small v (by omega)
    have hpw : IntKind.i64.wrap ((2 : Int) ^ v) = (2 : Int) ^ v := by rw [IntKind.wrap_i64]; omega
    have hv64 : (v : Int) < 64 := by omega
    have hv0 : (0 : Int) ≤ (v : Int) := by omega
    have HE1 := Lib.hid e1
    have HE2 := Lib.hid e2
    obtain ⟨FU, hFU⟩ : ∃ FU, FU = 2 ^ k - 1 := ⟨_, rfl⟩
    rw [← hFU] at HWH hand
    clear hX hgs hmi hmz hmm HMT e1 e2 e3 hS hfm hl hFU hX64
    go_wp2_with fail
    refine (sameInts_any _ _ _ _ _ _ _ l_lo_3.out G3.out hyl hyl).mono ?_
    rintro e w4 ⟨rfl, hb4⟩
    rw [sameB_refl]
    have B4 := Lib.hid (B3.out.trans (hb4.mono B3.out.size))
    have f_f_4 := Lib.hid (f_f_3.out.step hb4)
    have l_lo_4 := Lib.hid (l_lo_3.out.step hb4)
    have l_lw_4 := Lib.hid (G3.out.step hb4)
    clear hb4 B3 f_f_3 l_lo_3 G3
    have f_0 := f_f_4.out.x0
    have f_1 := f_f_4.out.x1
    clear l_lw_4
    have hkI : (0 : Int) < (k : Int) := by omega
    have hkN : 0 < k := by omega
    obtain ⟨b1, o1, ha9, hb1, hc1⟩ := l_lo_4.out.at_ (k := 0) (by rw [HE1.out]; omega)
    rw [HE2.out, Nat.add_zero] at hc1
    subst ha9
    rw [HE1.out]
    have HIF := f_f_4
    have x0 : w4.drew.cell? ⟨w1.heap.size, 0, none⟩ = some (.int .i64 (k : Int)) := f_0
    have x1 : w4.drew.cell? ⟨w1.heap.size, 1, none⟩ = some (.slice a1 zs.length c1) := f_1
    have xc : w4.drew.cell? ⟨b1, o1, none⟩ = some (.int .i64 (v : Int)) := hc1
    have hXl : w1.heap.size < w4.drew.heap.size := lt_of_some f_f_4.out.blk
    have hbl : b1 < w4.drew.heap.size := hb1
    have HBD : Hid (Below w.heap.size w w4.drew) := Lib.hid B4.out.drew
    have HID : Hid (Ints w4.drew w4.drew.heap.size a1 zs) := Lib.hid f_f_4.out.ints
    have HSX : Hid (∀ W, Below w4.drew.heap.size w4.drew W → W.cell? ⟨w1.heap.size, 0, none⟩ = some (.int .i64 (k : Int)) ∧ W.cell? ⟨w1.heap.size, 1, none⟩ = some (.slice a1 zs.length c1) ∧ W.cell? ⟨b1, o1, none⟩ = some (.int .i64 (v : Int))) := Lib.hid fun W hb => ⟨(hb.cell (p := ⟨w1.heap.size, 0, none⟩) hXl).trans x0, (hb.cell (p := ⟨w1.heap.size, 1, none⟩) hXl).trans x1, (hb.cell (p := ⟨b1, o1, none⟩) hbl).trans xc⟩
    have HIX : Hid (∀ W, Below w4.drew.heap.size w4.drew W → Ints W W.heap.size a1 zs) := Lib.hid fun W hb => (HID.out.below hb).mono hb.size
    clear f_0 f_1 HID hXl hbl x0 x1 xc
    go_wp2
    refine wp_region_kept (I := fun ls a' W'' => ∃ (A9 : Option Addr) (C9 AD : Nat), a' = { tmps := #[.slice a n cap, undef, .bool false, .pointer (some ⟨w1.heap.size, 0, none⟩), .slice (some ⟨b1, o1, none⟩) k c2, .bool true, .slice a3 k c3, .bool true, (bif ls.getD 12 false then .pointer (some ⟨AD, 0, none⟩) else undef), (bif ls.getD 14 false then .bool true else undef), .slice a n cap, .int .i64 (n : Int), .bool (decide (1048576 < (n : Int))), .slice a n cap, .agg #[.int .i64 (k : Int), .slice a1 zs.length c1], .tuple #[.slice (some ⟨b1, o1, none⟩) k c2, .bool true], .agg #[.int .i64 (k : Int), .slice a1 zs.length c1], .tuple #[.slice (some ⟨b1, o1, none⟩) k c2, .bool true], .slice (some ⟨b1, o1, none⟩) k c2, .bool true, .tuple #[.slice a3 k c3, .bool true], .agg #[.int .i64 (k : Int), .slice a1 zs.length c1], .tuple #[.slice a3 k c3, .bool true], .slice a3 k c3, .bool true, .bool true, .bool true, .bool false, .bool false, .slice (some ⟨b1, o1, none⟩) k c2, .slice a3 k c3, .bool true, .bool false, .bool false, .bool false, .bool true, .bool false, .bool false, undef, undef, undef, undef, undef, undef, undef, undef, (bif ls.getD 9 false then .tuple #[.agg #[.int .i64 (k : Int), .slice A9 gs.length C9], .bool true] else undef), (bif ls.getD 0 false then .agg #[.int .i64 (k : Int), .slice a1 zs.length c1] else undef), (bif ls.getD 1 false then .agg #[.int .i64 (k : Int), .slice a1 zs.length c1] else undef), (bif ls.getD 2 false then .int .i64 (FU : Int) else undef), (bif ls.getD 3 false then .slice (some ⟨b1, o1, none⟩) k c2 else undef), (bif ls.getD 4 false then .pointer (some ⟨b1, o1, none⟩) else undef), (bif ls.getD 5 false then .int .i64 (v : Int) else undef), (bif ls.getD 6 false then .int .i64 ((2 : Int) ^ v) else undef), (bif ls.getD 7 false then .int .i64 (X : Int) else undef), (bif ls.getD 8 false then .tuple #[.agg #[.int .i64 (k : Int), .slice A9 gs.length C9], .bool true] else undef), (bif ls.getD 10 false then .agg #[.int .i64 (k : Int), .slice A9 gs.length C9] else undef), (bif ls.getD 11 false then .bool true else undef), undef, undef, undef, undef, undef, undef, undef, undef, undef, undef, undef, undef], defers := [] } ∧ FoRel w4.drew k gs A9 C9 AD (ls.getD 8 false) (ls.getD 9 false) (ls.getD 10 false) (ls.getD 12 false) (ls.getD 13 false) W'') hmx (by kernel_rfl) ⟨none, 0, 0, rfl, ⟨Below.refl _ _, (fun h => by cases h), (fun h => by cases h), (fun h => by cases h), (fun h => by cases h), fun h => by cases h⟩⟩ ?step ?fin
    case step =>
      intro listed a' W'' i hsz hi hS
      obtain ⟨l0, l1, l2, l3, l4, l5, l6, l7, l8, l9, l10, l11, l12, l13, l14, rfl⟩ := arr15 listed hsz
      obtain ⟨hi1, hi2⟩ := List.mem_filter.1 hi
      have hi8 : i < 15 := by simpa using hi1
      obtain ⟨A9, C9, AD, rfl, ⟨R1, R2, R3, R4, R5, R6⟩⟩ := hS
      change l12 = true → w4.drew.heap.size ≤ AD ∧ HasBlk W'' AD #[bif l13 then .int .i64 (k : Int) else .int .i64 0, bif l13 then .slice A9 gs.length C9 else .slice none 0 0] 25 at R2
      change l8 = true → Ints W'' W''.heap.size A9 gs ∧ (l12 = true → gs ≠ [] → ∀ b o, A9 = some ⟨b, o, none⟩ → b ≠ AD) at R3
      change l13 = true → l12 = true ∧ l8 = true at R4
      change l9 = true → l8 = true at R5
      change l10 = true → l9 = true at R6
      obtain ⟨x0, x1, xc⟩ := HSX.out W'' R1
      have HR1 := Lib.hid R1
      have HR2 := Lib.hid R2
      have HR3 := Lib.hid R3
      have HR4 := Lib.hid R4
      have HR5 := Lib.hid R5
      have HR6 := Lib.hid R6
      clear hi hi1 R1 R2 R3 hsz
      have hcase : i = 0 ∨ i = 1 ∨ i = 2 ∨ i = 3 ∨ i = 4 ∨ i = 5 ∨ i = 6 ∨ i = 7 ∨ i = 8 ∨ i = 9 ∨ i = 10 ∨ i = 11 ∨ i = 12 ∨ i = 13 ∨ i = 14 := by omega
      rcases hcase with rfl | rfl | rfl | rfl | rfl | rfl | rfl | rfl | rfl | rfl | rfl | rfl | rfl | rfl | rfl
      · clear hi2 R4 R5 R6
        refine wpOp_of_list rfl ?_
        go_wp2
        exact ⟨A9, C9, AD, rfl, ⟨HR1.out, (by first | exact HR2.out | exact fun _ => HR2.out trivial | exact fun _ => rfl), (by first | exact HR3.out | exact fun _ => HR3.out trivial | exact fun _ => rfl), (by first | exact HR4.out | exact fun _ => HR4.out trivial | exact fun _ => rfl | exact fun h => ⟨(HR4.out h), rfl⟩ | exact fun h => ⟨(HR4.out h).1, rfl⟩), (by first | exact HR5.out | exact fun _ => HR5.out trivial | exact fun _ => rfl), (by first | exact HR6.out | exact fun _ => HR6.out trivial | exact fun _ => rfl)⟩⟩
      · clear hi2 R4 R5 R6
        refine wpOp_of_list rfl ?_
        go_wp2
        exact ⟨A9, C9, AD, rfl, ⟨HR1.out, (by first | exact HR2.out | exact fun _ => HR2.out trivial | exact fun _ => rfl), (by first | exact HR3.out | exact fun _ => HR3.out trivial | exact fun _ => rfl), (by first | exact HR4.out | exact fun _ => HR4.out trivial | exact fun _ => rfl | exact fun h => ⟨(HR4.out h), rfl⟩ | exact fun h => ⟨(HR4.out h).1, rfl⟩), (by first | exact HR5.out | exact fun _ => HR5.out trivial | exact fun _ => rfl), (by first | exact HR6.out | exact fun _ => HR6.out trivial | exact fun _ => rfl)⟩⟩
      · have g1 : l1 = true := by simp [Region.binds] at hi2; simp_all
        subst g1
        clear hi2 R4 R5 R6
        refine wpOp_of_list rfl ?_
        go_wp2_with (go_at_call 24; refine (HWH.out _).mono ?_; rintro e w8 ⟨rfl, hb8⟩; have HB8 := Lib.hid hb8; clear hb8)
        exact ⟨A9, C9, AD, rfl, ⟨HR1.out.trans (HB8.out.mono HR1.out.size), (fun h => ⟨(HR2.out h).1, (HB8.out.block _ (lt_of_some (HR2.out h).2)).trans (HR2.out h).2⟩), (fun h => ⟨(HR3.out h).1.step HB8.out, (HR3.out h).2⟩), HR4.out, HR5.out, HR6.out⟩⟩
      · clear hi2 R4 R5 R6
        clear x0 x1 xc
        refine wpOp_of_list rfl ?_
        go_wp2
        exact ⟨A9, C9, AD, rfl, ⟨HR1.out, (by first | exact HR2.out | exact fun _ => HR2.out trivial | exact fun _ => rfl), (by first | exact HR3.out | exact fun _ => HR3.out trivial | exact fun _ => rfl), (by first | exact HR4.out | exact fun _ => HR4.out trivial | exact fun _ => rfl | exact fun h => ⟨(HR4.out h), rfl⟩ | exact fun h => ⟨(HR4.out h).1, rfl⟩), (by first | exact HR5.out | exact fun _ => HR5.out trivial | exact fun _ => rfl), (by first | exact HR6.out | exact fun _ => HR6.out trivial | exact fun _ => rfl)⟩⟩
      · have g3 : l3 = true := by simp [Region.binds] at hi2; simp_all
        subst g3
        clear hi2 R4 R5 R6
        clear x0 x1 xc
        refine wpOp_of_list rfl ?_
        go_wp2
        exact ⟨A9, C9, AD, rfl, ⟨HR1.out, (by first | exact HR2.out | exact fun _ => HR2.out trivial | exact fun _ => rfl), (by first | exact HR3.out | exact fun _ => HR3.out trivial | exact fun _ => rfl), (by first | exact HR4.out | exact fun _ => HR4.out trivial | exact fun _ => rfl | exact fun h => ⟨(HR4.out h), rfl⟩ | exact fun h => ⟨(HR4.out h).1, rfl⟩), (by first | exact HR5.out | exact fun _ => HR5.out trivial | exact fun _ => rfl), (by first | exact HR6.out | exact fun _ => HR6.out trivial | exact fun _ => rfl)⟩⟩
      · have g4 : l4 = true := by simp [Region.binds] at hi2; simp_all
        subst g4
        clear hi2 R4 R5 R6
        refine wpOp_of_list rfl ?_
        go_wp2
        exact ⟨A9, C9, AD, rfl, ⟨HR1.out, (by first | exact HR2.out | exact fun _ => HR2.out trivial | exact fun _ => rfl), (by first | exact HR3.out | exact fun _ => HR3.out trivial | exact fun _ => rfl), (by first | exact HR4.out | exact fun _ => HR4.out trivial | exact fun _ => rfl | exact fun h => ⟨(HR4.out h), rfl⟩ | exact fun h => ⟨(HR4.out h).1, rfl⟩), (by first | exact HR5.out | exact fun _ => HR5.out trivial | exact fun _ => rfl), (by first | exact HR6.out | exact fun _ => HR6.out trivial | exact fun _ => rfl)⟩⟩
      · have g5 : l5 = true := by simp [Region.binds] at hi2; simp_all
        subst g5
        clear hi2 R4 R5 R6
        clear x0 x1 xc
        refine wpOp_of_list rfl ?_
        go_wp2
        exact ⟨A9, C9, AD, rfl, ⟨HR1.out, (by first | exact HR2.out | exact fun _ => HR2.out trivial | exact fun _ => rfl), (by first | exact HR3.out | exact fun _ => HR3.out trivial | exact fun _ => rfl), (by first | exact HR4.out | exact fun _ => HR4.out trivial | exact fun _ => rfl | exact fun h => ⟨(HR4.out h), rfl⟩ | exact fun h => ⟨(HR4.out h).1, rfl⟩), (by first | exact HR5.out | exact fun _ => HR5.out trivial | exact fun _ => rfl), (by first | exact HR6.out | exact fun _ => HR6.out trivial | exact fun _ => rfl)⟩⟩
      · have g2 : l2 = true := by simp [Region.binds] at hi2; simp_all
        have g6 : l6 = true := by simp [Region.binds] at hi2; simp_all
        subst g2
        subst g6
        clear hi2 R4 R5 R6
        clear x0 x1 xc
        refine wpOp_of_list rfl ?_
        go_wp2
        exact ⟨A9, C9, AD, rfl, ⟨HR1.out, (by first | exact HR2.out | exact fun _ => HR2.out trivial | exact fun _ => rfl), (by first | exact HR3.out | exact fun _ => HR3.out trivial | exact fun _ => rfl), (by first | exact HR4.out | exact fun _ => HR4.out trivial | exact fun _ => rfl | exact fun h => ⟨(HR4.out h), rfl⟩ | exact fun h => ⟨(HR4.out h).1, rfl⟩), (by first | exact HR5.out | exact fun _ => HR5.out trivial | exact fun _ => rfl), (by first | exact HR6.out | exact fun _ => HR6.out trivial | exact fun _ => rfl)⟩⟩
      · have g0 : l0 = true := by simp [Region.binds] at hi2; simp_all
        have g7 : l7 = true := by simp [Region.binds] at hi2; simp_all
        have g8' : l8 = false := by simp [Region.binds] at hi2; simp_all
        have g9 : l9 = false := by cases h : l9 <;> first | rfl | (have h2 := R5 h; simp_all)
        have g10 : l10 = false := by cases h : l10 <;> first | rfl | (have h2 := R6 h; simp_all)
        have g13 : l13 = false := by cases h : l13 <;> first | rfl | (have h2 := R4 h; simp_all)
        subst g0
        subst g7
        subst g8'
        subst g13
        subst g9
        subst g10
        clear hi2 R4 R5 R6
        have HIW := Lib.hid (HIX.out W'' HR1.out)
        refine wpOp_of_list rfl ?_
        go_wp2_with (go_at_call 23; refine (HMX.out _ HIW.out).mono ?_; rintro e w9 ⟨a9, c9, rfl, ho9, hb9⟩; have HB9 := Lib.hid hb9; have HO9 := Lib.hid ho9; clear hb9 ho9)
        exact ⟨a9, c9, AD, rfl, ⟨HR1.out.trans (HB9.out.mono HR1.out.size), (fun h => ⟨(HR2.out h).1, (HB9.out.block _ (lt_of_some (HR2.out h).2)).trans (HR2.out h).2⟩), (fun _ => ⟨own_ints HO9.out, fun h h0 b o e => by have h1 := own_at HO9.out h0 b o e; have h2 := lt_of_some (HR2.out h).2; omega⟩), (fun h => by cases h), (fun h => by cases h), fun h => by cases h⟩⟩
      · have g8 : l8 = true := by simp [Region.binds] at hi2; simp_all
        have g9' : l9 = false := by simp [Region.binds] at hi2; simp_all
        subst g8
        subst g9'
        clear hi2 R4 R5 R6
        clear x0 x1 xc
        refine wpOp_of_list rfl ?_
        go_wp2
        exact ⟨A9, C9, AD, rfl, ⟨HR1.out, (by first | exact HR2.out | exact fun _ => HR2.out trivial | exact fun _ => rfl), (by first | exact HR3.out | exact fun _ => HR3.out trivial | exact fun _ => rfl), (by first | exact HR4.out | exact fun _ => HR4.out trivial | exact fun _ => rfl | exact fun h => ⟨(HR4.out h), rfl⟩ | exact fun h => ⟨(HR4.out h).1, rfl⟩), (by first | exact HR5.out | exact fun _ => HR5.out trivial | exact fun _ => rfl), (by first | exact HR6.out | exact fun _ => HR6.out trivial | exact fun _ => rfl)⟩⟩
      · have g9 : l9 = true := by simp [Region.binds] at hi2; simp_all
        have g10' : l10 = false := by simp [Region.binds] at hi2; simp_all
        subst g9
        subst g10'
        clear hi2 R4 R5 R6
        clear x0 x1 xc
        refine wpOp_of_list rfl ?_
        go_wp2
        exact ⟨A9, C9, AD, rfl, ⟨HR1.out, (by first | exact HR2.out | exact fun _ => HR2.out trivial | exact fun _ => rfl), (by first | exact HR3.out | exact fun _ => HR3.out trivial | exact fun _ => rfl), (by first | exact HR4.out | exact fun _ => HR4.out trivial | exact fun _ => rfl | exact fun h => ⟨(HR4.out h), rfl⟩ | exact fun h => ⟨(HR4.out h).1, rfl⟩), (by first | exact HR5.out | exact fun _ => HR5.out trivial | exact fun _ => rfl), (by first | exact HR6.out | exact fun _ => HR6.out trivial | exact fun _ => rfl)⟩⟩
      · have g9 : l9 = true := by simp [Region.binds] at hi2; simp_all
        subst g9
        clear hi2 R4 R5 R6
        clear x0 x1 xc
        refine wpOp_of_list rfl ?_
        go_wp2
        exact ⟨A9, C9, AD, rfl, ⟨HR1.out, (by first | exact HR2.out | exact fun _ => HR2.out trivial | exact fun _ => rfl), (by first | exact HR3.out | exact fun _ => HR3.out trivial | exact fun _ => rfl), (by first | exact HR4.out | exact fun _ => HR4.out trivial | exact fun _ => rfl | exact fun h => ⟨(HR4.out h), rfl⟩ | exact fun h => ⟨(HR4.out h).1, rfl⟩), (by first | exact HR5.out | exact fun _ => HR5.out trivial | exact fun _ => rfl), (by first | exact HR6.out | exact fun _ => HR6.out trivial | exact fun _ => rfl)⟩⟩
      · have g12' : l12 = false := by simp [Region.binds] at hi2; simp_all
        have g13 : l13 = false := by cases h : l13 <;> first | rfl | (have h2 := R4 h; simp_all)
        subst g12'
        subst g13
        clear hi2 R4 R5 R6
        have hsep : l8 = true → gs ≠ [] → ∀ b o, A9 = some ⟨b, o, none⟩ → b ≠ W''.heap.size := fun h h0 b o e => by
          rcases (HR3.out h).1 with h1 | ⟨b', off, e', hb', _⟩
          · exact (h0 h1).elim
          · rw [e] at e'; injection e' with e'; injection e' with e1; omega
        have HSP := Lib.hid hsep
        clear hsep
        refine wpOp_of_list rfl ?_
        go_wp2
        refine ⟨A9, C9, W''.heap.size, rfl, ⟨HR1.out.alloc HR1.out.size _, ?_, ?_, ?_, (by first | exact HR5.out | exact fun _ => HR5.out trivial | exact fun _ => rfl), (by first | exact HR6.out | exact fun _ => HR6.out trivial | exact fun _ => rfl)⟩⟩
        · first | exact ⟨HR1.out.size, alloc_new W'' _⟩ | exact fun _ => ⟨HR1.out.size, alloc_new W'' _⟩
        · first | exact fun h => ⟨(HR3.out h).1.step (below1 W'' _), HSP.out h⟩ | exact fun h => ⟨(HR3.out h).1.step (below1 W'' _), fun _ => HSP.out h⟩
        · exact (fun h => by cases h)
      · have g12 : l12 = true := by simp [Region.binds] at hi2; simp_all
        have g10 : l10 = true := by simp [Region.binds] at hi2; simp_all
        have g8 : l8 = true := by simp [Region.binds] at hi2; simp_all
        have g13' : l13 = false := by simp [Region.binds] at hi2; simp_all
        subst g12
        subst g10
        subst g8
        subst g13'
        clear hi2 R4 R5 R6
        obtain ⟨q0, q1⟩ := HR2.out rfl
        change HasBlk W'' AD #[.int .i64 0, .slice none 0 0] 25 at q1
        have z0 := (blk_cell q1 0).trans (cell2_0 _ _)
        have z1 := (blk_cell q1 1).trans (cell2_1 _ _)
        have y0 := blk_frozen q1 0
        have y1 := blk_frozen q1 1
        have Q0 := Lib.hid q0
        have Q1 := Lib.hid q1
        clear q0 q1
        have p1 := heap_setCell_same W'' AD 0 #[.int .i64 0, .slice none 0 0] 25 (.int .i64 (k : Int)) Q1.out
        have p2 : HasBlk ((W''.setCell ⟨AD, 0, none⟩ (.int .i64 (k : Int))).setCell ⟨AD, 1, none⟩ (.slice A9 gs.length C9)) AD #[.int .i64 (k : Int), .slice A9 gs.length C9] 25 := heap_setCell_same _ AD 1 _ 25 (.slice A9 gs.length C9) p1
        have b1 : But (fun b => b = AD) W'' ((W''.setCell ⟨AD, 0, none⟩ (.int .i64 (k : Int))).setCell ⟨AD, 1, none⟩ (.slice A9 gs.length C9)) := (But.setCell (X := fun b => b = AD) _ _ _ _ (fun _ => rfl)).trans (But.setCell (X := fun b => b = AD) _ _ _ _ (fun _ => rfl))
        have P2 := Lib.hid p2
        have P4 := Lib.hid (HR3.out rfl).2
        have P3 := Lib.hid (ints_but1 (HR3.out rfl).1 (Nat.le_refl _) b1 ((HR3.out rfl).2 rfl) b1.size)
        clear p1 p2 b1
        refine wpOp_of_list rfl ?_
        go_wp2
        refine ⟨A9, C9, AD, rfl, ⟨(HR1.out.setCell (p := ⟨AD, 0, none⟩) Q0.out _).setCell (p := ⟨AD, 1, none⟩) Q0.out _, ?_, ?_, ?_, (by first | exact HR5.out | exact fun _ => HR5.out trivial | exact fun _ => rfl), (by first | exact HR6.out | exact fun _ => HR6.out trivial | exact fun _ => rfl)⟩⟩
        · exact fun _ => ⟨Q0.out, P2.out⟩
        · exact fun _ => ⟨P3.out, fun _ => P4.out trivial⟩
        · exact fun _ => ⟨rfl, rfl⟩
      · have g11 : l11 = true := by simp [Region.binds] at hi2; simp_all
        subst g11
        clear hi2 R4 R5 R6
        clear x0 x1 xc
        refine wpOp_of_list rfl ?_
        go_wp2
        exact ⟨A9, C9, AD, rfl, ⟨HR1.out, (by first | exact HR2.out | exact fun _ => HR2.out trivial | exact fun _ => rfl), (by first | exact HR3.out | exact fun _ => HR3.out trivial | exact fun _ => rfl), (by first | exact HR4.out | exact fun _ => HR4.out trivial | exact fun _ => rfl | exact fun h => ⟨(HR4.out h), rfl⟩ | exact fun h => ⟨(HR4.out h).1, rfl⟩), (by first | exact HR5.out | exact fun _ => HR5.out trivial | exact fun _ => rfl), (by first | exact HR6.out | exact fun _ => HR6.out trivial | exact fun _ => rfl)⟩⟩
    case fin =>
      intro listed a' W'' hsz hall hS
      obtain ⟨l0, l1, l2, l3, l4, l5, l6, l7, l8, l9, l10, l11, l12, l13, l14, rfl⟩ := arr15 listed hsz
      simp at hall
      obtain ⟨rfl, rfl, rfl, rfl, rfl, rfl, rfl, rfl, rfl, rfl, rfl, rfl, rfl, rfl, rfl⟩ := hall
      obtain ⟨A9, C9, AD, rfl, ⟨R1, R2, R3, -, -, -⟩⟩ := hS
      obtain ⟨R20, R21⟩ := R2 rfl
      obtain ⟨R30, -⟩ := R3 rfl
      change HasBlk W'' AD #[.int .i64 (k : Int), .slice A9 gs.length C9] 25 at R21
      have g_0 := (blk_cell R21 0).trans (cell2_0 _ _)
      have g_1 := (blk_cell R21 1).trans (cell2_1 _ _)
      have HG := Lib.hid R21
      have HR1 := Lib.hid R1
      have HC := Lib.hid (HFA.out A9 C9 W'' R30 (HT.out.below (HBD.out.trans (R1.mono HBD.out.size)) HT.out.lt))
      have hsz2 := R1.size
      clear R1 R2 R20 R21 R3 R30 hsz
      go_wp2_with fail
      refine HC.out.mono ?_
      rintro e w10 ⟨rfl, hb10⟩
      obtain ⟨x0, x1, xc⟩ := HSX.out w10 (HR1.out.trans (hb10.mono hsz2))
      have HB10 := Lib.hid ((HBD.out.trans (HR1.out.mono HBD.out.size)).trans (hb10.mono ((HBD.out.trans (HR1.out.mono HBD.out.size)).size)))
      clear g_0 g_1 hb10 xc x1
      go_wp2
      go_ret
      exact ⟨by simp, HB10.out⟩

end Go.Proofs.YtacglafoahmcnaaDoor
