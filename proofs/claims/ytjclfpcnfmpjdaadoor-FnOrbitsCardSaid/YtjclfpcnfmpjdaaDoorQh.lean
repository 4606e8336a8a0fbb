/- It is proved that the call of the law FnOrbits returns true; conditions: those of each statement. -/
import Derived.RowKit
import Derived.Laws.CopyRow
import Derived.Lib.SlBuf
import Derived.Deep.QuietTactic
import Derived.RangeFuncNested
import Derived.RangeFuncBound
import Derived.RangeFuncCalls
import Derived.RangeFuncLeaves
import Derived.RangeFuncBox
import Derived.RangeFuncWrites
import Derived.StillTailTactics
import Derived.Maps.OwnIn
import Derived.Maps.Ext
import Derived.DeepKeys4
import Derived.MapKept
import Derived.Test.YtjclfpcnfmpjdaaDoorRows
import Derived.WalkKit
import Derived.WalkSpells
import Derived.ProofKit
import Derived.OpenShut
import Derived.ShutString
import Derived.ChangeOld
import Derived.Below
import Derived.Deep.RegionHeld3
import Derived.BigQuiet
import Derived.Lib.Hide
import Derived.Lib.SmallJoins
import Derived.Outline
import Derived.Laws.MakeOwn
import Derived.Laws.OwnMore
import Derived.IntWalk
import Derived.Maps.AppendAt
import Derived.Sort.MapsRangeIn
import Derived.Deep.RegionLaw
import Derived.Deep.AppendLies
import Derived.Lib.AppendZeros
import Derived.OwnWalk
import Derived.Lib.SlicesCompact
import Derived.Lib.OwnBridge
import Derived.OrdersIn
import Derived.TacticsIn
import Derived.Shelf.Sort.Plain
import Derived.Shelf.Slices.In.SortNone
import Derived.Shelf.Slices.CompactI
import Derived.Ground.Names2Prog
import Derived.Shelf.Abstract
import Derived.Shelf.RegionOpen
import Derived.OwnWalkIn
import Derived.TacticsInMore
import Derived.LoopNIn
import Derived.LoopIn
import Derived.StillTail
import Derived.StillTactics
import Derived.Shelf.Spec.TrailingZeros
import Derived.Test.YtjclfpcnfmpjdaaDoorMra
import Derived.Test.YtjclfpcnfmpjdaaDoorMrb
import Derived.Test.YtjclfpcnfmpjdaaDoorBj
import Derived.Test.YtjclfpcnfmpjdaaDoorBk
import Derived.Test.YtjclfpcnfmpjdaaDoorBl
import Derived.Test.YtjclfpcnfmpjdaaDoorDe
import Derived.Test.YtjclfpcnfmpjdaaDoorFb
import Derived.Test.YtjclfpcnfmpjdaaDoorPm
import Derived.Test.YtjclfpcnfmpjdaaDoorPn
import Derived.Test.YtjclfpcnfmpjdaaDoorPzB
import Derived.Test.YtjclfpcnfmpjdaaDoorQa
import Derived.Test.YtjclfpcnfmpjdaaDoorQg
import Derived.Test.YtjclfpcnfmpjdaaDoorZa
namespace Go.Proofs.YtjclfpcnfmpjdaaDoor
open Go.RowKit

set_option maxRecDepth 100000 in
theorem lawSize_any (z : Int) (w : World) (h0 : 0 ≤ z) (h : z ≤ 63) : Calls Tryd.prog 33 #[.int .i64 z] w fun e w' => e = .returned (.int .i64 (pop z)) ∧ w = w' := by
  go_enter Tryd.func33, Tryd.ntmps33
  go_wp2
  go_loop [0, 3] (fun s n => ∃ (f : Nat) (t k : Int), 0 ≤ t ∧ t < 2 ^ f ∧ f ≤ 6 ∧ 0 ≤ k ∧ k ≤ 6 - (f : Int) ∧ k + popN (f + 1) t = pop z ∧ s = .int .i64 t ∧ n = .int .i64 k) (fun s _ => (intOf s).toNat)
  case atStart => exact ⟨6, z, 0, by omega, by simp; omega, by omega, by omega, by omega, by simp [pop], rfl, rfl⟩
  case round =>
    obtain ⟨f, t, k, h1, h2, h3, h4, h5, h6, rfl, rfl⟩ := hrel
    have ht63 : t ≤ 63 := by
      have : (2 : Int) ^ f ≤ 2 ^ 6 := by
        obtain rfl | rfl | rfl | rfl | rfl | rfl | rfl : f = 0 ∨ f = 1 ∨ f = 2 ∨ f = 3 ∨ f = 4 ∨ f = 5 ∨ f = 6 := by omega
        all_goals decide
      have h64 : (2 : Int) ^ 6 = 64 := by decide
      omega
    have H2 := Lib.hid h2
    have H6 := Lib.hid h6
    have HB := Lib.hid (bit_small t h1 ht63)
    clear h2 h6
    by_cases ht : 0 < t
    · obtain ⟨hb0, hb1⟩ := HB.out
      cases f with
      | zero => have := H2.out; simp at this; omega
      | succ f =>
        have hb2 : bits .and .i64 t 1 ≤ 1 := hb1
        go_wp2
        go_round
        case rel => exact ⟨f, t / 2, k + bits .and .i64 t 1, by omega, by have := H2.out; rw [Int.pow_succ] at this; omega, by omega, by omega, by omega, by have := H6.out; rw [popN, if_pos ht] at this; omega, rfl, rfl⟩
        case measure => simp [intOf]; omega
    · have HP : Hid (k = pop z) := Lib.hid (by have := H6.out; rw [popN, if_neg ht] at this; omega)
      go_wp2
      go_ret
      exact ⟨ret_int HP.out, rfl⟩

theorem foldor_lt {k : Nat} : ∀ (L : List Nat) (s : Nat), s < 2 ^ k → (∀ x ∈ L, x < 2 ^ k) → L.foldl (· ||| ·) s < 2 ^ k
  | [], s, hs, _ => hs
  | x :: L, s, hs, h => by
    rw [List.foldl_cons]
    exact foldor_lt L _ (Nat.or_lt_two_pow hs (h x (by simp))) (fun y hy => h y (by simp [hy]))

set_option maxRecDepth 100000 in
set_option maxHeartbeats 8000000 in
theorem walkFnOrbits (a : Option Addr) (n cap : Nat) (w : World) (hb : Bys w w.heap.size a n) (hT : Tab w) (hn : n ≤ 1048576) (hc : n ≤ cap) (hc2 : cap ≤ 9223372036854775807) :
    Calls Tryd.prog 7 #[.slice a n cap] w fun e w' => e = .returned (.bool true) ∧ Below w.heap.size w w' := by
  have HBy := Lib.hid hb
  have HT := Lib.hid hT
  clear hb hT
  go_enter Tryd.func7, Tryd.ntmps7
  go_wp2_with fail
  refine (drawAlikeOrbits_any a n cap w HBy.out hn hc hc2).mono ?_
  rintro e w1 ⟨m, a1, zs, c1, rfl, hl, ho1, hb1⟩
  have F1 := FB.start (m := m) (c := c1) (own_ints ho1)
  have B1 := Lib.hid (hb1.trans ((below1 w1 (.cells #[.int .i64 m, .slice a1 zs.length c1] 25)).mono hb1.size))
  have hln : zs.length ≤ 1048576 := by omega
  have f_1 := Lib.hid F1
  clear F1 ho1 hb1
  obtain ⟨ys, hys⟩ : ∃ ys, ys = orbZ m zs := ⟨_, rfl⟩
  have hyl : ys.length ≤ 1048576 := by rw [hys]; exact orbZ_len m zs
  have HYS := Lib.hid hys
  clear hys
  have x0 := f_1.out.x0
  have x1 := f_1.out.x1
  go_wp2_with fail
  refine (implOrbits_any m a1 c1 zs _ f_1.out.ints (HT.out.below B1.out HT.out.lt) hln).mono ?_
  rw [← HYS.out]
  rintro e w2 ⟨a2, c2, rfl, ho2, hb2⟩
  have g_2 := Lib.hid (own_ints ho2)
  have B2 := Lib.hid (B1.out.trans (hb2.mono B1.out.size))
  have f_2 := Lib.hid (f_1.out.step hb2)
  clear ho2 hb2 B1 f_1 x0 x1
  have x0 := f_2.out.x0
  have x1 := f_2.out.x1
  go_wp2_with fail
  refine (specOrbits_any m a1 c1 zs _ f_2.out.ints hln).mono ?_
  rw [← HYS.out]
  rintro e w3 ⟨a3, c3, rfl, ho3, hb3⟩
  have h_3 := Lib.hid (own_ints ho3)
  have B3 := Lib.hid (B2.out.trans (hb3.mono B2.out.size))
  have f_3 := Lib.hid (f_2.out.step hb3)
  have g_3 := Lib.hid (g_2.out.step hb3)
  clear ho3 hb3 B2 f_2 g_2 x0 x1
  cases hd : famIn m zs
  · clear hd HYS
    go_wp2_with fail
    refine (sameInts_any _ _ _ _ _ _ _ g_3.out h_3.out hyl hyl).mono ?_
    rintro e w4 ⟨rfl, hb4⟩
    rw [sameB_refl]
    have B4 := Lib.hid (B3.out.trans (hb4.mono B3.out.size))
    have g_4 := Lib.hid (g_3.out.step hb4)
    have h_4 := Lib.hid (h_3.out.step hb4)
    clear hb4 B3 f_3 g_3 h_3
    go_wp2_with fail
    refine (sameInts_any _ _ _ _ _ _ _ g_4.out h_4.out hyl hyl).mono ?_
    rintro e w5 ⟨rfl, hb5⟩
    rw [sameB_refl]
    have B5 := Lib.hid (B4.out.trans (hb5.mono B4.out.size))
    clear hb5 B4 g_4 h_4
    go_wp2
    go_ret
    exact ⟨rfl, B5.out⟩
  · have HD := Lib.hid hd
    have hm1 : 1 ≤ m := (famIn_out hd).1
    have hm6 : m ≤ 6 := (famIn_out hd).2.1
    obtain ⟨O, hO, hok, hs1, hs720⟩ := orbits_facts hd
    clear hd
    obtain ⟨k, rfl⟩ : ∃ k : Nat, m = (k : Int) := ⟨m.toNat, by omega⟩
    have hk6 : k ≤ 6 := by omega
    have h64 := pow64 k hk6
    obtain ⟨s, hs⟩ : ∃ s, s = sameZ (k : Int) zs := ⟨_, rfl⟩
    obtain ⟨ds, hds⟩ : ∃ ds, ds = famDeg (k : Int) zs := ⟨_, rfl⟩
    have hdl : ds.length = k := by rw [hds, famDeg, if_pos HD.out]; exact degL_length _ _
    rw [← hs, ← hds, Int.toNat_natCast] at hok
    rw [← hs] at hs1 hs720
    have HOK := Lib.hid hok
    have HDS := Lib.hid hds
    have HS := Lib.hid hs
    have HDL := Lib.hid hdl
    have HO : Hid (ys = nI O) := Lib.hid (by rw [HYS.out]; exact hO)
    obtain ⟨N, hN⟩ : ∃ N, N = O.length := ⟨_, rfl⟩
    have hN6 : N ≤ 6 := by have := hok.len; omega
    have HN := Lib.hid hN
    have HYL : Hid (ys.length = N) := Lib.hid (by rw [HO.out, nI_len, hN])
    clear hok hds hs hO hN HYS hdl
    go_wp2_with fail
    refine (sameInts_any _ _ _ _ _ _ _ g_3.out h_3.out hyl hyl).mono ?_
    rintro e w4 ⟨rfl, hb4⟩
    rw [sameB_refl]
    have B4 := Lib.hid (B3.out.trans (hb4.mono B3.out.size))
    have f_4 := Lib.hid (f_3.out.step hb4)
    have g_4 := Lib.hid (g_3.out.step hb4)
    clear hb4 B3 f_3 g_3 h_3
    have x0 := f_4.out.x0
    have x1 := f_4.out.x1
    go_wp2_with fail
    refine (implSame_any (k : Int) a1 c1 zs _ f_4.out.ints (HT.out.below B4.out HT.out.lt) hln).mono ?_
    rw [← HS.out, HD.out]
    rintro e w5 ⟨rfl, hb5⟩
    have B5 := Lib.hid (B4.out.trans (hb5.mono B4.out.size))
    have f_5 := Lib.hid (f_4.out.step hb5)
    have g_5 := Lib.hid (g_4.out.step hb5)
    clear hb5 B4 f_4 g_4 x0 x1
    have x0 := f_5.out.x0
    have x1 := f_5.out.x1
    go_wp2_with fail
    refine (implDegrees_any (k : Int) a1 c1 zs _ f_5.out.ints (HT.out.below B5.out HT.out.lt) hln).mono ?_
    rw [HD.out, ← HDS.out]
    rintro e w6 ⟨a6, c6, rfl, ho6, hb6⟩
    have d_6 := Lib.hid (own_ints ho6)
    have B6 := Lib.hid (B5.out.trans (hb6.mono B5.out.size))
    have f_6 := Lib.hid (f_5.out.step hb6)
    have g_6 := Lib.hid (g_5.out.step hb6)
    clear ho6 hb6 B5 f_5 g_5 x0 x1
    have x0 := f_6.out.x0
    have x1 := f_6.out.x1
    rw [HYL.out, HDL.out]
    have hNI : (N : Int) ≤ 6 := by omega
    go_wp2
    go_loop [12, 13] (fun sn i => ∃ (j S : Nat), j ≤ N ∧ i = .int .i64 (j : Int) ∧ sn = .int .i64 (S : Int) ∧ S = (O.take j).foldl (· ||| ·) 0) (fun _ i => N - (intOf i).toNat)
    case atStart => exact ⟨0, 0, Nat.zero_le _, rfl, rfl, by simp⟩
    case round =>
      obtain ⟨j, S, hj, rfl, rfl, hS⟩ := hrel
      by_cases hlt : j < N
      · have hjO : j < O.length := by rw [← HN.out]; exact hlt
        obtain ⟨X, hX⟩ : ∃ X, X = O[j]?.getD 0 := ⟨_, rfl⟩
        have hXl : X < 2 ^ k := by rw [hX]; exact HOK.out.lt j hjO
        have hX64 : X < 64 := by omega
        have hX0 : X ≠ 0 := by rw [hX]; exact HOK.out.ne j hjO
        have hS64 : S < 64 := by
          have : S < 2 ^ k := by
            rw [hS]
            exact foldor_lt _ _ (Nat.two_pow_pos k) (fun x hx => by
              obtain ⟨i, hi, e⟩ := List.getElem_of_mem (List.mem_of_mem_take hx)
              have := HOK.out.lt i hi
              simpa [hi, e] using this)
          omega
        have hap : S &&& X = 0 := by rw [hS, hX]; exact HOK.out.apart j hjO
        obtain ⟨D, hD0, hDD⟩ := HOK.out.deg j hjO
        rw [← hX] at hDD
        have HDD := Lib.hid hDD
        obtain ⟨P, hP⟩ : ∃ P, P = pop (X : Int) := ⟨_, rfl⟩
        have HP := Lib.hid hP
        have hrem : s.tmod P = 0 := by rw [hP, hX]; exact HOK.out.divides j hjO
        have HREM := Lib.hid hrem
        have hP1 : 1 ≤ P := by
          rw [hP, pop_mem hX64]
          have : mem X ≠ [] := fun e => hX0 (mem_none X hX64 e)
          have := List.length_pos_iff.2 this
          omega
        have hP6 : P ≤ 6 := by
          rw [hP, pop_mem hX64]
          have : (mem X).length ≤ 6 := by unfold mem; exact Nat.le_trans (List.length_filter_le _ _) (by simp)
          omega
        have hSN : Hid (S ||| X = (O.take (j + 1)).foldl (· ||| ·) 0) := Lib.hid (by
          rw [List.take_succ_eq_append_getElem hjO, List.foldl_append, ← hS, hX]
          simp [hjO])
        obtain ⟨b1, o1, ha1, hbl1, hc1⟩ := g_6.out.at_ (k := j) (by rw [HYL.out]; exact hlt)
        have hyx : ys[j]?.getD 0 = (X : Int) := by rw [HO.out, hX]; unfold nI; rw [List.getElem?_map, List.getElem?_eq_getElem hjO]; simp
        rw [hyx] at hc1
        subst ha1
        have hj0 : (0 : Int) ≤ (j : Int) := by omega
        have hj1 : (j : Int) < (N : Int) := by omega
        have hXI : ((X : Int) == 0) = false := by simp; omega
        have hand : bits BinOp.and IntKind.i64 (S : Int) (X : Int) = 0 := by rw [and_fin2 S X hS64 hX64, hap]; rfl
        have hor : bits BinOp.or IntKind.i64 (S : Int) (X : Int) = ((S ||| X : Nat) : Int) := or_fin2 S X hS64 hX64
        have hP0 : (P == 0) = false := by simp; omega
        clear hX hP hDD hS hap hrem hyx hX0
        have HXI := Lib.hid hXI
        have HAND := Lib.hid hand
        have HOR := Lib.hid hor
        have HP0 := Lib.hid hP0
        clear hXI hand hor hP0
        go_wp2
        go_loop [14, 15] (fun dg v => ∃ (u : Nat) (d : Int), u ≤ k ∧ v = .int .i64 (u : Int) ∧ dg = .int .i64 d ∧ (d = -1 ∨ d = D)) (fun _ v => k - (intOf v).toNat)
        case atStart => exact ⟨0, -1, Nat.zero_le _, rfl, rfl, .inl rfl⟩
        case round =>
          obtain ⟨u, d, hu, rfl, rfl, hdd⟩ := hrel
          by_cases hlu : u < k
          · have hu0 : (0 : Int) ≤ (u : Int) := by omega
            have hu1 : (u : Int) < (k : Int) := by omega
            have hu2 : (u : Int) < 64 := by omega
            have hbv := bit_val (S := X) (v := u) hX64 (by omega)
            cases ht : X.testBit u
            · rw [ht] at hbv
              have hbv2 : bits BinOp.and IntKind.i64 ((X : Int) / 2 ^ u) 1 = 0 := hbv
              clear hbv ht
              go_wp2
              go_round
              case rel => exact ⟨u + 1, d, by omega, by go_num, rfl, hdd⟩
              case measure => simp [intOf]; omega
            · have hdu := HDD.out u hlu ht
              obtain ⟨b2, o2, ha2, hbl2, hc2⟩ := d_6.out.at_ (k := u) (by rw [HDL.out]; exact hlu)
              rw [hdu] at hc2
              subst ha2
              rw [ht] at hbv
              have hbv2 : bits BinOp.and IntKind.i64 ((X : Int) / 2 ^ u) 1 = 1 := hbv
              clear hbv ht hdu
              rcases hdd with rfl | rfl
              · go_wp2
                go_round
                case rel => exact ⟨u + 1, D, by omega, by go_num, rfl, .inr rfl⟩
                case measure => simp [intOf]; omega
              · go_wp2
                go_round
                case rel => exact ⟨u + 1, d, by omega, by go_num, rfl, .inr rfl⟩
                case measure => simp [intOf]; omega
          · have hXI := HXI.out
            have hand := HAND.out
            have hX0 : (0 : Int) ≤ (X : Int) := by omega
            have hX63 : (X : Int) ≤ 63 := by omega
            go_wp2_with fail
            refine (lawSize_any (X : Int) _ hX0 hX63).mono ?_
            rw [← HP.out]
            rintro e w7 ⟨rfl, rfl⟩
            have hP0 := HP0.out
            have hrem := HREM.out
            have hor := HOR.out
            go_wp2
            go_round
            case rel => exact ⟨j + 1, S ||| X, by omega, by go_num, rfl, hSN.out⟩
            case measure => simp [intOf]; omega
      · obtain rfl : j = N := by omega
        have hall : (S : Int) = fullI (k : Int) := by
          rw [full_nat, hS, HN.out, List.take_length, HOK.out.all]
        have HALL := Lib.hid hall
        clear hall hS
        go_wp2_with fail
        refine (whole_any (k : Int) a1 _ _ _ hm1 hm6).mono ?_
        rw [← HALL.out]
        rintro e w7 ⟨rfl, hb7⟩
        have B7 := Lib.hid (B6.out.trans (hb7.mono B6.out.size))
        clear hb7
        go_wp2
        go_ret
        exact ⟨rfl, B7.out⟩

end Go.Proofs.YtjclfpcnfmpjdaaDoor
