/- It is proved that the call of FnMeetOrder returns true; conditions: those of each statement. -/
import Derived.BigQuiet
import Derived.Deep.QuietTactic
import Derived.Deep.RegionHeld3
import Derived.RowKit
import Derived.Laws.CopyRow
import Derived.Lib.SlBuf
import Derived.RangeFuncNested
import Derived.RangeFuncBound
import Derived.RangeFuncCalls
import Derived.RangeFuncLeaves
import Derived.RangeFuncBox
import Derived.RangeFuncWrites
import Derived.StillTailTactics
import Derived.Maps.OwnIn
import Derived.Maps.Ext
import Derived.DeepKeys4
import Derived.MapKept
import Derived.Test.YtacglafoahmcnaaDoorRows
import Derived.WalkKit
import Derived.WalkSpells
import Derived.ProofKit
import Derived.OpenShut
import Derived.ShutString
import Derived.ChangeOld
import Derived.Below
import Derived.Lib.Hide
import Derived.Lib.SmallJoins
import Derived.Outline
import Derived.Laws.MakeOwn
import Derived.Laws.OwnMore
import Derived.IntWalk
import Derived.Maps.AppendAt
import Derived.Sort.MapsRangeIn
import Derived.Deep.RegionLaw
import Derived.Deep.AppendLies
import Derived.Deep.RegionWith
import Derived.Lib.AppendZeros
import Derived.OwnWalk
import Derived.Lib.SlicesCompact
import Derived.Lib.OwnBridge
import Derived.OrdersIn
import Derived.TacticsIn
import Derived.Shelf.Sort.Plain
import Derived.Shelf.Slices.In.SortNone
import Derived.Shelf.Slices.CompactI
import Derived.Ground.Names2Prog
import Derived.Lib.SliceRun
import Derived.Laws.BitsAllLaws
import Derived.Shelf.RegionOpen
import Derived.Shelf.Abstract
import Derived.OwnWalkIn
import Derived.TacticsInMore
import Derived.LoopNIn
import Derived.LoopIn
import Derived.StillTail
import Derived.StillTactics
import Derived.Shelf.Spec.TrailingZeros
import Derived.Deep.LoopGhost
import Derived.Test.YtacglafoahmcnaaDoorRaazxFnMeet
import Derived.Test.YtacglafoahmcnaaDoorRaac
import Derived.Test.YtacglafoahmcnaaDoorDb
import Derived.Test.YtacglafoahmcnaaDoorRaap
import Derived.Test.YtacglafoahmcnaaDoorRaaq
import Derived.Test.YtacglafoahmcnaaDoorRaaw
import Derived.Test.YtacglafoahmcnaaDoorRaad
import Derived.Test.YtacglafoahmcnaaDoorRabbxFnMeet
import Derived.Test.YtacglafoahmcnaaDoorRabdxFnMeet
import Derived.Test.YtacglafoahmcnaaDoorRaal
import Derived.Test.YtacglafoahmcnaaDoorRaam
import Derived.Test.YtacglafoahmcnaaDoorRabexFnMeet
import Derived.Test.YtacglafoahmcnaaDoorRaae
import Derived.Test.YtacglafoahmcnaaDoorRabmxFnMeet
import Derived.Test.YtacglafoahmcnaaDoorRabnxFnMeet
import Derived.Test.YtacglafoahmcnaaDoorRaboxFnMeet
import Derived.Test.YtacglafoahmcnaaDoorRabpxFnMeet
namespace Go.Proofs.YtacglafoahmcnaaDoor
open Go.RowKit Go.Shelf

theorem ord_facts {m : Int} {zs : List Int} (h : ordB m zs = true) : ∃ (k : Nat) (p : List Nat), m = (k : Int) ∧ 1 ≤ k ∧ k ≤ 6 ∧ Sets k zs ∧ zs.length ≤ 8 ∧ famIn (k : Int) zs = true ∧ p ∈ lvlL k k ∧ brkC zs (nI p) = false ∧ ordZ m zs = nI p := by
  unfold ordB at h
  rw [Bool.and_eq_true] at h
  obtain ⟨hf, ho⟩ := h
  obtain ⟨k, rfl, hk1, hk6, hset, hl8⟩ := fam_nat2 hf
  rw [Int.toNat_natCast, Option.isSome_iff_exists] at ho
  obtain ⟨p, hp⟩ := ho
  have h1 := hp
  unfold firstO at h1
  refine ⟨k, p, rfl, hk1, hk6, hset, hl8, hf, ?_, ?_, ?_⟩
  · rw [lvlL_perms]; exact List.mem_of_find?_eq_some h1
  · have := List.find?_some h1
    simpa using this
  · unfold ordZ; rw [hf, if_pos rfl, Int.toNat_natCast, hp]; rfl

theorem ord_at {k : Nat} (hk : k ≤ 6) {p : List Nat} (hp : p ∈ lvlL k k) {x : Nat} (hx : x < k) : ∃ v : Nat, v < 6 ∧ (nI p)[x]?.getD 0 = (v : Int) ∧ ∀ z, atF z (nI p) x = z.testBit v := by
  have hl := lvlL_in hp
  have hxl : x < p.length := by omega
  have hv := lvlL_lt hp _ (List.getElem_mem hxl)
  refine ⟨p[x], by omega, by simp [nI, hxl], fun z => ?_⟩
  unfold atF nI
  simp [hxl]

/-- The first and the last of the first j places at which f holds, or -1. -/
def FL (f : Nat → Bool) (j : Nat) (x y : Int) : Prop :=
  (x = -1 ∧ y = -1 ∧ ∀ c, c < j → f c = false) ∨ (∃ X Y : Nat, x = (X : Int) ∧ y = (Y : Int) ∧ X ≤ Y ∧ Y < j ∧ f X = true ∧ f Y = true ∧ (∀ c, c < X → f c = false) ∧ ∀ c, Y < c → c < j → f c = false)

theorem fl_start (f : Nat → Bool) : FL f 0 (-1) (-1) := .inl ⟨rfl, rfl, fun c h => by omega⟩
theorem fl_skip {f : Nat → Bool} {j : Nat} {x y : Int} (h : FL f j x y) (hf : f j = false) : FL f (j + 1) x y := by
  rcases h with ⟨h1, h2, h3⟩ | ⟨X, Y, h1, h2, h3, h4, h5, h6, h7, h8⟩
  · refine .inl ⟨h1, h2, fun c hc => ?_⟩
    rcases Nat.lt_succ_iff_lt_or_eq.1 hc with h | rfl
    · exact h3 c h
    · exact hf
  · refine .inr ⟨X, Y, h1, h2, h3, by omega, h5, h6, h7, fun c hc hcj => ?_⟩
    rcases Nat.lt_succ_iff_lt_or_eq.1 hcj with h | rfl
    · exact h8 c hc h
    · exact hf

theorem fl_take {f : Nat → Bool} {j : Nat} {x y : Int} (h : FL f j x y) (hf : f j = true) : FL f (j + 1) (if x < 0 then (j : Int) else x) (j : Int) := by
  rcases h with ⟨rfl, rfl, h3⟩ | ⟨X, Y, rfl, rfl, h3, h4, h5, h6, h7, h8⟩
  · rw [if_pos (by omega)]
    exact .inr ⟨j, j, rfl, rfl, Nat.le_refl _, by omega, hf, hf, h3, fun c hc hcj => by omega⟩
  · rw [if_neg (by omega)]
    exact .inr ⟨X, j, rfl, rfl, by omega, by omega, h5, hf, h7, fun c hc hcj => by omega⟩

theorem fl_end {k : Nat} (hk : k ≤ 6) {zs : List Int} {p : List Nat} (hp : p ∈ lvlL k k) (he : brkC zs (nI p) = false) {z : Nat} (hz : (z : Int) ∈ zs) (hz2 : z < 2 ^ k) {x y : Int} (h : FL (atF z (nI p)) k x y) :
    x = -1 ∨ (0 ≤ x ∧ x ≤ 6 ∧ 0 ≤ y ∧ y ≤ 6 ∧ y - x + 1 = ((cntK 8 z : Nat) : Int)) := by
  rcases h with ⟨rfl, -, -⟩ | ⟨X, Y, rfl, rfl, h3, h4, h5, h6, h7, h8⟩
  · exact .inl rfl
  · have := even_span hk hp he hz (by rw [Int.toNat_natCast]; exact hz2) (x := X) (y := Y) h4 (by rw [Int.toNat_natCast]; exact h5) (by rw [Int.toNat_natCast]; exact h7) (by rw [Int.toNat_natCast]; exact h6) (by rw [Int.toNat_natCast]; exact h8) h3
    rw [Int.toNat_natCast] at this
    refine .inr ⟨by omega, by omega, by omega, by omega, by omega⟩

set_option maxRecDepth 100000 in
set_option maxHeartbeats 8000000 in
theorem walkFnMeetOrder (a : Option Addr) (n cap : Nat) (w : World) (hb : Bys w w.heap.size a n) (hT : Tab w) (hn : n ≤ 1048576) (hc : n ≤ cap) (hc2 : cap ≤ 9223372036854775807) :
    Calls Tryd.prog 8 #[.slice a n cap] w fun e w' => e = .returned (.bool true) ∧ Below w.heap.size w w' := by
  have HBy := Lib.hid hb
  have HT := Lib.hid hT
  clear hb hT
  go_enter Tryd.func8, Tryd.ntmps8
  go_wp2_with fail
  refine (drawMeetOrder_any a n cap w HBy.out hn hc hc2).mono ?_
  rintro e w1 ⟨m, a1, zs, c1, rfl, hl, ho1, hb1⟩
  have F1 := FB.start (m := m) (c := c1) (own_ints ho1)
  have B1 := Lib.hid (hb1.trans ((below1 w1 (.cells #[.int .i64 m, .slice a1 zs.length c1] 25)).mono hb1.size))
  have hln : zs.length ≤ 1048576 := by omega
  have f_f_1 := Lib.hid F1
  clear F1 ho1 hb1
  have f_0 := f_f_1.out.x0
  have f_1 := f_f_1.out.x1
  obtain ⟨ys, hys⟩ : ∃ ys, ys = ordZ m zs := ⟨_, rfl⟩
  obtain ⟨OK, hOK⟩ : ∃ OK, OK = ordB m zs := ⟨_, rfl⟩
  have hyl : ys.length ≤ 1048576 := by rw [hys]; exact ordZ_len _ _
  have HI := Lib.hid (fun W hi hT => implMeetOrder_any m a1 c1 zs W hi hT hln)
  have HSP := Lib.hid (fun W hi => specMeetOrder_any m a1 c1 zs W hi hln)
  rw [← hys, ← hOK] at HI HSP
  have HYS := Lib.hid hys
  have HOK := Lib.hid hOK
  clear hys hOK
  go_wp2_with fail
  refine (HI.out _ f_f_1.out.ints (HT.out.below B1.out HT.out.lt)).mono ?_
  rintro e w2 ⟨a2, c2, rfl, ho2, hb2⟩
  have G2 := Lib.hid (own_ints ho2)
  have B2 := Lib.hid (B1.out.trans (hb2.mono B1.out.size))
  have f_f_2 := Lib.hid (f_f_1.out.step hb2)
  clear ho2 hb2 B1 f_f_1
  clear f_0 f_1
  have f_0 := f_f_2.out.x0
  have f_1 := f_f_2.out.x1
  go_wp2_with fail
  refine (HSP.out _ f_f_2.out.ints).mono ?_
  rintro e w3 ⟨a3, c3, rfl, ho3, hb3⟩
  have G3 := Lib.hid (own_ints ho3)
  have B3 := Lib.hid (B2.out.trans (hb3.mono B2.out.size))
  have f_f_3 := Lib.hid (f_f_2.out.step hb3)
  have l_lo_3 := Lib.hid (G2.out.step hb3)
  clear ho3 hb3 B2 f_f_2 G2
  clear f_0 f_1
  clear HI HSP
  cases OK
  · clear HOK HYS
    go_wp2_with fail
    refine (sameInts_any _ _ _ _ _ _ _ l_lo_3.out G3.out hyl hyl).mono ?_
    rintro e w4 ⟨rfl, hb4⟩
    rw [sameB_refl]
    have B4 := Lib.hid (B3.out.trans (hb4.mono B3.out.size))
    have f_f_4 := Lib.hid (f_f_3.out.step hb4)
    have l_lo_4 := Lib.hid (l_lo_3.out.step hb4)
    have l_lw_4 := Lib.hid (G3.out.step hb4)
    clear hb4 B3 f_f_3 l_lo_3 G3
    go_wp2_with fail
    refine (sameInts_any _ _ _ _ _ _ _ l_lo_4.out l_lw_4.out hyl hyl).mono ?_
    rintro e w5 ⟨rfl, hb5⟩
    rw [sameB_refl]
    have B5 := Lib.hid (B4.out.trans (hb5.mono B4.out.size))
    have f_f_5 := Lib.hid (f_f_4.out.step hb5)
    have l_lo_5 := Lib.hid (l_lo_4.out.step hb5)
    have l_lw_5 := Lib.hid (l_lw_4.out.step hb5)
    clear hb5 B4 f_f_4 l_lo_4 l_lw_4
    go_wp2
    go_ret
    exact ⟨rfl, B5.out⟩
  · obtain ⟨k, p, rfl, hk1, hk6, hset, hl8, hf, hp, he, hyp⟩ := ord_facts HOK.out.symm
    have hyn : ys = nI p := by rw [HYS.out]; exact hyp
    have HYL : Hid (ys.length = k) := Lib.hid (by rw [hyn, nI_len]; exact lvlL_in hp)
    have HHE := Lib.hid (even_helly hf hp he)
    have HAT : Hid (∀ x, x < k → ∃ v : Nat, v < 6 ∧ ys[x]?.getD 0 = (v : Int) ∧ ∀ z, atF z ys x = z.testBit v) := Lib.hid fun x hx => by rw [hyn]; exact ord_at hk6 hp hx
    have HSP : Hid (∀ z : Nat, z < 64 → (z : Int) ∈ zs → z < 2 ^ k → ∀ x y, FL (atF z ys) k x y → x = -1 ∨ (0 ≤ x ∧ x ≤ 6 ∧ 0 ≤ y ∧ y ≤ 6 ∧ y - x + 1 = ((cntK 8 z : Nat) : Int))) := Lib.hid fun z hz hzm hz2 x y h => by rw [hyn] at h; exact fl_end hk6 hp he hzm hz2 h
    have HSET := Lib.hid hset
    have HHI := Lib.hid (fun W hi hT => implHelly_any (k : Int) a1 c1 zs W hi hT hln)
    obtain ⟨N, hN⟩ : ∃ N, N = zs.length := ⟨_, rfl⟩
    have HN := Lib.hid hN
    have hN8 : N ≤ 8 := by omega
    rw [HHE.out] at HHI
    clear hset hf hp he hyp hyn HYS HOK hN HHE
    go_wp2_with fail
    refine (sameInts_any _ _ _ _ _ _ _ l_lo_3.out G3.out hyl hyl).mono ?_
    rintro e w4 ⟨rfl, hb4⟩
    rw [sameB_refl]
    have B4 := Lib.hid (B3.out.trans (hb4.mono B3.out.size))
    have f_f_4 := Lib.hid (f_f_3.out.step hb4)
    have l_lo_4 := Lib.hid (l_lo_3.out.step hb4)
    have l_lw_4 := Lib.hid (G3.out.step hb4)
    clear hb4 B3 f_f_3 l_lo_3 G3
    clear l_lw_4
    rw [HYL.out]
    have HLI := l_lo_4
    have HFB := f_f_4
    have x0' := HFB.out.x0
    have x1' := HFB.out.x1
    clear l_lo_4 f_f_4
    go_wp2
    clear x0' x1'
    go_loopw [8] (fun i wr => ∃ v : Nat, v ≤ N ∧ i = .int .i64 (v : Int) ∧ Below w4.heap.size w4 wr) (fun i _ => N - (intOf i).toNat)
    case atStart => exact ⟨0, Nat.zero_le _, rfl, Below.refl _ _⟩
    case round =>
      obtain ⟨i, hi, rfl, hb⟩ := hrel
      have HBo := Lib.hid hb
      have hFo := HFB.out.step hb
      have f_0 := hFo.x0
      have f_1 := hFo.x1
      rw [← HN.out] at f_1
      have hi0 : (0 : Int) ≤ (i : Int) := by omega
      by_cases hlt : i < N
      · have hiN : (i : Int) < (N : Int) := by omega
        have hil : i < zs.length := by rw [← HN.out]; exact hlt
        have hzm := HSET.out _ (getD_mem (zs := zs) (i := i) hil)
        have hzmem := getD_mem (zs := zs) (i := i) hil
        obtain ⟨z, hzz⟩ : ∃ z : Nat, zs[i]?.getD 0 = (z : Int) := ⟨(zs[i]?.getD 0).toNat, by have := hzm.1; omega⟩
        have hz64 : z < 64 := by
          have := p64 hk6 hzm.2
          rwa [hzz, Int.toNat_natCast] at this
        have hz2 : z < 2 ^ k := by
          have := hzm.2
          rwa [hzz, Int.toNat_natCast] at this
        rw [hzz] at hzmem
        have HZZ := Lib.hid hzz
        have HEND := Lib.hid (HSP.out z hz64 hzmem hz2)
        have H0 : Hid (FL (atF z ys) 0 (-1) (-1) ∧ Below w4.heap.size w4 wr) := Lib.hid ⟨fl_start _, hb⟩
        clear hzm hzmem hz2 hzz hb hFo
        go_wp2
        clear f_0 f_1
        go_loopw [9, 10, 11] (fun s9 s10 s11 wr => ∃ (j : Nat) (x y : Int), j ≤ k ∧ s11 = .int .i64 (j : Int) ∧ s9 = .int .i64 x ∧ s10 = .int .i64 y ∧ Hid (FL (atF z ys) j x y ∧ Below w4.heap.size w4 wr)) (fun _ _ s11 _ => k - (intOf s11).toNat)
        case atStart => exact ⟨0, -1, -1, Nat.zero_le _, rfl, rfl, rfl, H0⟩
        case round =>
          obtain ⟨j, x, y, hj, rfl, rfl, rfl, HFL⟩ := hrel
          clear H0
          have hb := HFL.out.2
          have hFi := HFB.out.step hb
          have f_0 := hFi.x0
          have f_1 := hFi.x1
          rw [← HN.out] at f_1
          have hj0 : (0 : Int) ≤ (j : Int) := by omega
          by_cases hjt : j < k
          · have hjk : (j : Int) < (k : Int) := by omega
            obtain ⟨v, hv6, hyv, hat⟩ := HAT.out j hjt
            obtain ⟨b1, o1, ha1, -, hc1⟩ := ((HLI.out.below hb).mono hb.size).at_ (k := j) (by rw [HYL.out]; exact hjt)
            subst ha1
            rw [hyv] at hc1
            obtain ⟨b2, o2, ha2, -, hc2⟩ := hFi.ints.at_ (k := i) hil
            subst ha2
            rw [HZZ.out] at hc2
            have HATZ := Lib.hid (hat z)
            have HBD : Hid (Below w4.heap.size w4 wr.drew) := Lib.hid hb.drew
            have hv0 : (0 : Int) ≤ (v : Int) := by omega
            have hv64 : (v : Int) < 64 := by omega
            clear hat hyv hFi hb
            cases hbz : z.testBit v
            · have hz0 := bit_zero hz64 hv6 hbz
              have HR : Hid (FL (atF z ys) (j + 1) x y) := Lib.hid (fl_skip HFL.out.1 (by rw [HATZ.out]; exact hbz))
              clear hbz HATZ
              go_wp2
              go_region_held3 (fun w' => w'.cell? ⟨w1.heap.size, 0, none⟩ = some (.int .i64 (k : Int)) ∧ w'.cell? ⟨w1.heap.size, 1, none⟩ = some (.slice (some ⟨b2, o2, none⟩) N c1) ∧ w'.cell? ⟨b1, o1 + j, none⟩ = some (.int .i64 (v : Int)) ∧ w'.cell? ⟨b2, o2 + i, none⟩ = some (.int .i64 (z : Int)) ∧ w' = wr.drew)
                (exact ⟨f_0, f_1, hc1, hc2, rfl⟩)
                (first | fail)
              rename_i hHeld
              clear hHeld
              go_wp2
              go_roundw
              case rel => exact ⟨j + 1, x, y, by omega, by go_num, rfl, rfl, Lib.hid ⟨HR.out, HBD.out⟩⟩
              case measure => simp [intOf]; omega
            · have hz1 := bit_one hz64 hv6 hbz
              have HR : Hid (FL (atF z ys) (j + 1) (if x < 0 then (j : Int) else x) (j : Int)) := Lib.hid (fl_take HFL.out.1 (by rw [HATZ.out]; exact hbz))
              clear hbz HATZ
              by_cases hx : x < 0
              · rw [if_pos hx] at HR
                go_wp2
                go_region_held3 (fun w' => w'.cell? ⟨w1.heap.size, 0, none⟩ = some (.int .i64 (k : Int)) ∧ w'.cell? ⟨w1.heap.size, 1, none⟩ = some (.slice (some ⟨b2, o2, none⟩) N c1) ∧ w'.cell? ⟨b1, o1 + j, none⟩ = some (.int .i64 (v : Int)) ∧ w'.cell? ⟨b2, o2 + i, none⟩ = some (.int .i64 (z : Int)) ∧ w' = wr.drew)
                  (exact ⟨f_0, f_1, hc1, hc2, rfl⟩)
                  (first | fail)
                rename_i hHeld
                clear hHeld
                go_wp2
                go_roundw
                case rel => exact ⟨j + 1, _, _, by omega, by go_num, rfl, rfl, Lib.hid ⟨HR.out, HBD.out⟩⟩
                case measure => simp [intOf]; omega
              · rw [if_neg hx] at HR
                go_wp2
                go_region_held3 (fun w' => w'.cell? ⟨w1.heap.size, 0, none⟩ = some (.int .i64 (k : Int)) ∧ w'.cell? ⟨w1.heap.size, 1, none⟩ = some (.slice (some ⟨b2, o2, none⟩) N c1) ∧ w'.cell? ⟨b1, o1 + j, none⟩ = some (.int .i64 (v : Int)) ∧ w'.cell? ⟨b2, o2 + i, none⟩ = some (.int .i64 (z : Int)) ∧ w' = wr.drew)
                  (exact ⟨f_0, f_1, hc1, hc2, rfl⟩)
                  (first | fail)
                rename_i hHeld
                clear hHeld
                go_wp2
                go_roundw
                case rel => exact ⟨j + 1, _, _, by omega, by go_num, rfl, rfl, Lib.hid ⟨HR.out, HBD.out⟩⟩
                case measure => simp [intOf]; omega
          · obtain rfl : j = k := by omega
            obtain ⟨b2, o2, ha2, -, hc2⟩ := hFi.ints.at_ (k := i) hil
            subst ha2
            rw [HZZ.out] at hc2
            have HB9 := Lib.hid hb
            have HSZ := Lib.hid (lawSizeW_any z wr (by omega))
            rcases HEND.out x y HFL.out.1 with rfl | ⟨hx0, hx6, hy0, hy6, hxy⟩
            · clear hFi hb HFL
              go_wp2
              go_roundw
              case rel => exact ⟨i + 1, by omega, by go_num, HB9.out⟩
              case measure => simp [intOf]; omega
            · obtain ⟨C, hC⟩ : ∃ C : Int, C = ((cntK 8 z : Nat) : Int) := ⟨_, rfl⟩
              rw [← hC] at HSZ hxy
              have hcc : (C != C) = false := by simp
              clear hFi hb HFL hC
              go_wp2_with fail
              refine HSZ.out.mono ?_
              rintro e w9 ⟨rfl, rfl⟩
              go_wp2
              go_roundw
              case rel => exact ⟨i + 1, by omega, by go_num, HB9.out⟩
              case measure => simp [intOf]; omega
      · obtain rfl : i = N := by omega
        have HH := Lib.hid (HHI.out wr hFo.ints (HT.out.below (B4.out.trans (hb.mono B4.out.size)) HT.out.lt))
        rw [← HN.out] at HH
        have HBF := Lib.hid (B4.out.trans (hb.mono B4.out.size))
        have HF9 := Lib.hid hFo
        clear hb hFo
        go_wp2_with fail
        refine HH.out.mono ?_
        rintro e w9 ⟨rfl, hb9⟩
        have HB9 := Lib.hid (HBF.out.trans (hb9.mono HBF.out.size))
        have h9 := HF9.out.step hb9
        clear f_0 f_1
        have f_0 := h9.x0
        have f_1 := h9.x1
        clear h9 hb9
        go_wp2
        go_ret
        exact ⟨by simp, HB9.out⟩

end Go.Proofs.YtacglafoahmcnaaDoor
