/- It is proved what l6eReduce returns; conditions: those of each statement. -/
import Derived.Deep.LoopGhost
import Derived.Deep.QuietTactic
import Derived.BigQuiet
import Derived.RowKit
import Derived.Laws.CopyRow
import Derived.Lib.SlBuf
import Derived.RangeFuncNested
import Derived.RangeFuncBound
import Derived.RangeFuncCalls
import Derived.RangeFuncLeaves
import Derived.RangeFuncBox
import Derived.RangeFuncWrites
import Derived.StillTailTactics
import Derived.Maps.OwnIn
import Derived.Maps.Ext
import Derived.DeepKeys4
import Derived.MapKept
import Derived.Test.YtnpfdgbbcapnkaaDoorRows
import Derived.WalkKit
import Derived.WalkSpells
import Derived.ProofKit
import Derived.OpenShut
import Derived.ShutString
import Derived.ChangeOld
import Derived.Below
import Derived.Deep.RegionHeld3
import Derived.Lib.Hide
import Derived.Lib.SmallJoins
import Derived.Outline
import Derived.Laws.MakeOwn
import Derived.Laws.OwnMore
import Derived.IntWalk
import Derived.Lib.AppendZeros
import Derived.Maps.AppendAt
import Derived.Deep.AppendLies
import Derived.OwnWalk
import Derived.Lib.SlicesCompact
import Derived.Lib.OwnBridge
import Derived.OrdersIn
import Derived.TacticsIn
import Derived.Shelf.Sort.Plain
import Derived.Shelf.Slices.In.SortNone
import Derived.Shelf.Slices.CompactI
import Derived.Ground.Names2Prog
import Derived.Lib.SliceRun
import Derived.Shelf.Abstract
import Derived.Shelf.RegionOpen
import Derived.OwnWalkIn
import Derived.TacticsInMore
import Derived.LoopNIn
import Derived.LoopIn
import Derived.StillTail
import Derived.StillTactics
import Derived.Shelf.Spec.TrailingZeros
import Derived.Test.YtnpfdgbbcapnkaaDoorRbab
import Derived.Test.YtnpfdgbbcapnkaaDoorRbaa
import Derived.Test.YtnpfdgbbcapnkaaDoorRbae
import Derived.Test.YtnpfdgbbcapnkaaDoorRbam
import Derived.Test.YtnpfdgbbcapnkaaDoorRbac
import Derived.Test.YtnpfdgbbcapnkaaDoorRbaf
import Derived.Test.YtnpfdgbbcapnkaaDoorRbah
import Derived.Test.YtnpfdgbbcapnkaaDoorRbal
namespace Go.Proofs.YtnpfdgbbcapnkaaDoor
open Go.RowKit

theorem own_wr6 {w : World} {B : Nat} {a : Option Addr} {n c k : Nat} {zs : List Int} (h : OwnN w B a n c zs) (hk : k < n) :
    ∃ g, a = some ⟨g, 0, none⟩ ∧ B ≤ g ∧ g < w.heap.size ∧ w.cell? ⟨g, k, none⟩ = some (.int .i64 (zs[k]?.getD 0)) ∧ w.frozen? ⟨g, k, none⟩ = false ∧
      ∀ x, OwnN (w.setCell ⟨g, k, none⟩ (.int .i64 x)) B a n c (zs.set k x) := by
  have hl := h.len
  subst hl
  obtain ⟨g, h1, h2, h3, h4, h5, h6⟩ := own_wr h hk
  exact ⟨g, h1, h2, h3, h4, h5, fun x => by have := h6 x; unfold OwnI at this; rw [List.length_set] at this; exact this⟩

/-- The model is through. -/
def RDone (k : Nat) (zs out : List Int) (st : Nat) : Prop :=
  simpZ out = redZ k zs ∧ out.length = (redZ k zs).length ∧ (∀ z, z ∈ out ↔ z ∈ redZ k zs) ∧ st + mbN (redZ k zs) + (redZ k zs).length = mbN zs + zs.length

def RedRet (w : World) (k : Nat) (zs : List Int) (e : Ending) (w' : World) : Prop :=
  ∃ b cap out st, e = .returned (.tuple #[.slice b (out.length) cap, .int .i64 ((st : Nat) : Int)]) ∧ OwnN w' w.heap.size b out.length cap out ∧ Below w.heap.size w w' ∧ RDone k zs out st

theorem cnt_take (v : Nat) (l : List Int) {i : Nat} (hi : i < l.length) : (l.take (i + 1)).countP (Bt v) = (l.take i).countP (Bt v) + if Bt v (l[i]?.getD 0) then 1 else 0 := by
  rw [List.take_succ_eq_append_getElem hi, List.countP_append, List.countP_singleton, List.getElem?_eq_getElem hi, Option.getD_some]

set_option maxRecDepth 100000 in
theorem bt_int_fin : ∀ z : Fin 64, ∀ v : Fin 6, bits .and .i64 ((z.val : Int) / 2 ^ v.val) 1 = if z.val.testBit v.val then 1 else 0 := by decide +kernel

theorem bt_int {z : Int} (h0 : 0 ≤ z) (hz : z.toNat < 64) {v : Nat} (hv : v < 6) : bits .and .i64 (z / 2 ^ v) 1 = if Bt v z then 1 else 0 := by
  have := bt_int_fin ⟨z.toNat, hz⟩ ⟨v, hv⟩
  simp only [Int.toNat_of_nonneg h0] at this
  exact this

set_option maxRecDepth 100000 in
set_option maxHeartbeats 8000000 in
theorem l6eReduce_any (k : Nat) (hk6 : k ≤ 6) (a : Option Addr) (c : Nat) (zs : List Int) (w : World) (ha : Ints w w.heap.size a zs) (h8 : zs.length ≤ 8) (hz : Sets k zs) :
    Calls Tryd.prog 46 #[.slice a zs.length c] w (RedRet w k zs) := by
  obtain ⟨a1, c1, w1, hrun, ho1, hg1⟩ := app_run0n (B := w.heap.size) (own_empty (alloc_new w (.cells #[] 3)) (Nat.le_refl _)) (by simp) a c zs rfl ((ha.below (below1 w _)).mono (by simp)) (by omega)
  obtain ⟨Z, hZ⟩ : ∃ Z, Z = zs.length := ⟨_, rfl⟩
  have HZ := Lib.hid hZ
  rw [← hZ] at hrun ho1 h8 ⊢
  have HO : Hid (OwnN w1 w.heap.size a1 Z c1 zs) := Lib.hid ho1
  have HB : Hid (Below w.heap.size w w1) := Lib.hid ((below1 w _).trans ((Below.refl _ _).grown hg1 (by simp) (fun g e => by simp [Value.ownBlock] at e; omega)))
  have HS := Lib.hid hz
  clear ha ho1 hg1 hZ hz
  go_enter Tryd.func46, Tryd.ntmps46
  have HRUN := Lib.hid hrun
  clear hrun
  go_wp2_with (at_builtin; refine Lib.wpList_append_run _ rfl _ _ 23 23 rfl _ _ rfl rfl _ _ HRUN.out ?_)
  go_loopg [4, 5, 6, 7, 8, 9, 10, 11, 12] (mbN zs + zs.length + 1) (fun g s4 s5 s6 s7 s8 s9 s10 s11 s12 wr => ∃ (out : List Int) (n : Nat) (b : Option Addr) (d st : Nat), n ≤ 8 ∧ s4 = .slice b n d ∧ s5 = .int .i64 (st : Int) ∧ st ≤ 1000 ∧ Hid (OwnN wr w.heap.size b n d out ∧ Below w.heap.size w wr ∧ RedS k zs out st ∧ mbN out + out.length < g))
  case atStart => exact ⟨zs, Z, a1, c1, 0, h8, rfl, rfl, by omega, HO.out, HB.out, RedS.start HS.out, Nat.lt_succ_self _⟩
  case round =>
    obtain ⟨out, n, b, d, st, hn8, rfl, rfl, hst, HR⟩ := hrel
    obtain ⟨g, rfl⟩ : ∃ g, gk = g + 1 := ⟨gk - 1, by have := HR.out.2.2.2; omega⟩
    have hwr : w.heap.size ≤ wr.heap.size := HR.out.2.1.size
    have HK : Hid (∀ o st', RedS k zs o st' → st' ≤ 14) := Lib.hid fun o st' h => by
      have h1 := h.2.2
      have h2 := mbN_le zs
      have h3 := HZ.out
      omega
    have HS64 : Hid (∀ o st', RedS k zs o st' → ∀ z ∈ o, 0 ≤ z ∧ z.toNat < 64) := Lib.hid fun o st' h z hz => ⟨(h.1 z hz).1, p64 hk6 (h.1 z hz).2⟩
    go_wp2
    go_loopg [5, 7, 8, 9, 10] 6 (fun gv s5 s7 s8 s9 s10 wv => ∃ (v st1 : Nat) (o1 : List Int), v + gv = 6 ∧ s7 = .int .i64 (v : Int) ∧ s5 = .int .i64 (st1 : Int) ∧ st1 ≤ 1000 ∧ Hid (OwnN wv w.heap.size b n d o1 ∧ Below w.heap.size w wv ∧ RedS k zs o1 st1 ∧ st ≤ st1 ∧ (st1 = st → ∀ u, u < v → o1.countP (Bt u) ≠ 1)))
    case atStart => exact ⟨0, st, out, by omega, rfl, rfl, hst, HR.out.1, HR.out.2.1, HR.out.2.2.1, Nat.le_refl _, fun _ u hu => by omega⟩
    case round =>
      obtain ⟨v, st1, o1, hvg, rfl, rfl, hst1, HV⟩ := hrel
      cases gk with
      | zero =>
        obtain rfl : v = 6 := by omega
        have HN : Hid (o1.length = n) := Lib.hid HV.out.1.len
        go_wp2
        go_loopg [4, 5, 11, 12] n (fun gi s4 s5 s11 s12 wi => ∃ (i n2 st2 d2 : Nat) (b2 : Option Addr) (o2 : List Int), i + gi = n2 ∧ n2 ≤ 8 ∧ s4 = .slice b2 n2 d2 ∧ s5 = .int .i64 (st2 : Int) ∧ s11 = .int .i64 (i : Int) ∧ st2 ≤ 14 ∧ Hid (OwnN wi w.heap.size b2 n2 d2 o2 ∧ Below w.heap.size w wi ∧ RedS k zs o2 st2 ∧ st ≤ st2 ∧ (st2 = st → (∀ u, u < 6 → o2.countP (Bt u) ≠ 1) ∧ Apart o2 i)))
        case atStart => exact ⟨0, n, st1, d, b, o1, by omega, hn8, rfl, rfl, rfl, HK.out _ _ HV.out.2.2.1, HV.out.1, HV.out.2.1, HV.out.2.2.1, HV.out.2.2.2.1, fun e => ⟨HV.out.2.2.2.2 e, fun i hi => by omega⟩⟩
        case round =>
          obtain ⟨i, n2, st2, d2, b2, o2, hig, hn2, rfl, rfl, rfl, hst2, HI⟩ := hrel
          have HN2 : Hid (o2.length = n2) := Lib.hid HI.out.1.len
          clear HV HN
          cases gk with
          | zero =>
            obtain rfl : i = n2 := by omega
            by_cases he : st2 = st
            · subst he
              have HD : Hid (RDone k zs o2 st2) := Lib.hid (HI.out.2.2.1.done hk6 HS.out (by rw [HN2.out]; exact (HI.out.2.2.2.2 rfl).2) (HI.out.2.2.2.2 rfl).1)
              go_wp2
              try rw [Exit.noGoto_ret]
              go_ret2
              exact ⟨b2, d2, o2, st2, by rw [HN2.out]; rfl, by rw [HN2.out]; exact HI.out.1, HI.out.2.1, HD.out⟩
            · have hb1 : ((st2 : Int) == (st : Int)) = false := by rw [beq_eq_false_iff_ne]; omega
              have hb2 : (st2 == st) = false := by rw [beq_eq_false_iff_ne]; exact he
              have HG : Hid (mbN o2 + o2.length < g) := Lib.hid (by
                have h1 := HI.out.2.2.1.2.2
                have h2 := HR.out.2.2.1.2.2
                have h3 := HR.out.2.2.2
                have h4 := HI.out.2.2.2.1
                omega)
              clear he
              go_wp2
              go_roundg g
              case measure => omega
              case rel => exact ⟨o2, i, b2, d2, st2, hn2, rfl, rfl, by omega, HI.out.1, HI.out.2.1, HI.out.2.2.1, HG.out⟩
          | succ gi =>
            have hin : i < n2 := by omega
            have hii : (i : Int) < (n2 : Int) := by omega
            have hi0 : (0 : Int) ≤ (i : Int) := by omega
            obtain ⟨x, hx⟩ : ∃ x, x = o2[i]?.getD 0 := ⟨_, rfl⟩
            have HX : Hid (o2[i]? = some x) := Lib.hid (by rw [hx, List.getElem?_eq_getElem (by rw [HN2.out]; exact hin)]; rfl)
            have hxm : x ∈ o2 := List.mem_of_getElem? HX.out
            obtain ⟨hx0, hx1⟩ := HS64.out _ _ HI.out.2.2.1 x hxm
            obtain ⟨g2, rfl, hg1⟩ : ∃ g2, b2 = some ⟨g2, 0, none⟩ ∧ w.heap.size ≤ g2 := by
              obtain ⟨g2, h1, h2, _⟩ := HI.out.1.addr (by omega)
              exact ⟨g2, h1, h2⟩
            have hcap : n2 ≤ d2 := HI.out.1.cap_le
            clear hx hxm
            go_wp2
            go_loopg [4, 5, 11, 12] n2 (fun gj s4 s5 s11 s12 wk => ∃ kk : Nat, kk + gj = n2 ∧ s4 = .slice (some ⟨g2, 0, none⟩) n2 d2 ∧ s5 = .int .i64 (st2 : Int) ∧ s11 = .int .i64 (i : Int) ∧ s12 = .int .i64 (kk : Int) ∧ Hid (OwnN wk w.heap.size (some ⟨g2, 0, none⟩) n2 d2 o2 ∧ Below w.heap.size w wk ∧ ∀ k', k' < kk → ∀ y, i ≠ k' → o2[k']? = some y → subZ x y → x = y ∧ i ≤ k'))
            case atStart => exact ⟨0, by omega, rfl, rfl, rfl, rfl, HI.out.1, HI.out.2.1, fun k' hk' => by omega⟩
            case round =>
              obtain ⟨kk, hkg, rfl, rfl, rfl, rfl, HKK⟩ := hrel
              cases gk with
              | zero =>
                obtain rfl : kk = n2 := by omega
                have HA : Hid (st2 = st → (∀ u, u < 6 → o2.countP (Bt u) ≠ 1) ∧ Apart o2 (i + 1)) := Lib.hid fun e => by
                  refine ⟨(HI.out.2.2.2.2 e).1, fun i' hi' k' x' y' hne hx' hy' hs => ?_⟩
                  by_cases ei : i' = i
                  · subst ei
                    rw [HX.out] at hx'
                    obtain rfl := Option.some.inj hx'
                    exact HKK.out.2.2 k' (by have := (List.getElem?_eq_some_iff.1 hy').1; rw [HN2.out] at this; exact this) y' hne hy' hs
                  · exact (HI.out.2.2.2.2 e).2 i' (by omega) k' x' y' hne hx' hy' hs
                go_wp2
                go_roundg gi
                case measure => omega
                case rel => exact ⟨i + 1, kk, st2, d2, _, o2, by omega, hn2, rfl, rfl, by go_num, hst2, HKK.out.1, HKK.out.2.1, HI.out.2.2.1, HI.out.2.2.2.1, HA.out⟩
              | succ gj =>
                have hkn : kk < n2 := by omega
                have hki : (kk : Int) < (n2 : Int) := by omega
                have hk0 : (0 : Int) ≤ (kk : Int) := by omega
                obtain ⟨y, hy⟩ : ∃ y, y = o2[kk]?.getD 0 := ⟨_, rfl⟩
                have HY : Hid (o2[kk]? = some y) := Lib.hid (by rw [hy, List.getElem?_eq_getElem (by rw [HN2.out]; exact hkn)]; rfl)
                have hym : y ∈ o2 := List.mem_of_getElem? HY.out
                obtain ⟨hy0, hy1⟩ := HS64.out _ _ HI.out.2.2.1 y hym
                have ci := HKK.out.1.cell hin
                have ck := HKK.out.1.cell hkn
                rw [HX.out, Option.getD_some] at ci
                rw [HY.out, Option.getD_some] at ck
                clear hy hym
                have HLE : Hid ((bits .andNot .i64 x y == 0) = decide (subZ x y)) := Lib.hid (by
                  have e := leG_nat x.toNat y.toNat hx1 hy1
                  rw [Int.toNat_of_nonneg hx0, Int.toNat_of_nonneg hy0] at e
                  exact e)
                by_cases hik : i = kk
                · subst hik
                  have hb1 : ((i : Int) != (i : Int)) = false := by simp
                  have HN' : Hid (∀ k', k' < i + 1 → ∀ y, i ≠ k' → o2[k']? = some y → subZ x y → x = y ∧ i ≤ k') := Lib.hid fun k' hk' y' hne => HKK.out.2.2 k' (by omega) y' hne
                  go_wp2
                  go_quiet (fail)
                  go_wp2
                  go_roundg gj
                  case measure => omega
                  case rel => exact ⟨i + 1, by omega, rfl, rfl, rfl, by go_num, HKK.out.1, below_drewN HKK.out.2.1 _, HN'.out⟩
                · have hb1 : ((i : Int) != (kk : Int)) = true := by rw [bne_iff_ne]; omega
                  have hb1' : (i != kk) = true := by rw [bne_iff_ne]; exact hik
                  have HIK := Lib.hid hik
                  clear hik
                  by_cases hsub : subZ x y
                  · have hb2 : (bits .andNot .i64 x y == 0) = true := by rw [HLE.out, decide_eq_true hsub]
                    have HSUB := Lib.hid hsub
                    clear hsub
                    by_cases hc : x = y ∧ i ≤ kk
                    · obtain ⟨rfl, hik2⟩ := hc
                      have hb3 : (x != x) = false := by simp
                      have hb4 : decide ((kk : Int) < (i : Int)) = false := by rw [decide_eq_false_iff_not]; omega
                      have hb4' : decide (kk < i) = false := by rw [decide_eq_false_iff_not]; omega
                      have HN' : Hid (∀ k', k' < kk + 1 → ∀ y, i ≠ k' → o2[k']? = some y → subZ x y → x = y ∧ i ≤ k') := Lib.hid fun k' hk' y' hne hy' hs => by
                        by_cases e : k' = kk
                        · subst e; rw [HY.out] at hy'; exact ⟨Option.some.inj hy', hik2⟩
                        · exact HKK.out.2.2 k' (by omega) y' hne hy' hs
                      go_wp2
                      go_quiet (fail)
                      go_wp2
                      go_roundg gj
                      case measure => omega
                      case rel => exact ⟨kk + 1, by omega, rfl, rfl, rfl, by go_num, HKK.out.1, below_drewN HKK.out.2.1 _, HN'.out⟩
                    · have HRD : Hid (RedS k zs (o2.eraseIdx i) (st2 + 1)) := Lib.hid (HI.out.2.2.1.drop hk6 HIK.out HX.out HY.out HSUB.out)
                      have hcase : (x ≠ y) ∨ (x = y ∧ kk < i) := by
                        by_cases e : x = y
                        · exact .inr ⟨e, by omega⟩
                        · exact .inl e
                      have HC := Lib.hid hc
                      clear hc
                      rcases hcase with hxy | ⟨rfl, hlt⟩
                      · have hb3 : (x != y) = true := by rw [bne_iff_ne]; exact hxy
                        clear hxy
                        go_wp2
                        go_quiet (fail)
                        go_wp2_with fail
                        have HOQ : Hid (OwnN (wr.drewN nq) w.heap.size (some ⟨g2, 0, none⟩) n2 d2 o2 ∧ Below w.heap.size w (wr.drewN nq)) := Lib.hid ⟨HKK.out.1, below_drewN HKK.out.2.1 _⟩
                        clear HKK ci ck
                        generalize wr.drewN nq = w5 at HOQ ⊢
                        have h5 : w.heap.size ≤ w5.heap.size := HOQ.out.2.size
                        have HL1 : Hid ((o2.take i).length = i) := Lib.hid (by rw [List.length_take, HN2.out]; omega)
                        have HL2 : Hid ((o2.drop (i + 1)).length = (n2 - (i + 1))) := Lib.hid (by rw [List.length_drop, HN2.out])
                        have HB1 := Lib.hid (below1 w5 (.cells #[] 3))
                        have hE : OwnI (w5.alloc (.cells #[] 3)).drew w5.heap.size (.slice (some ⟨w5.heap.size, 0, none⟩) 0 0) [] := own_empty (w := (w5.alloc (.cells #[] 3)).drew) (alloc_new w5 _) (Nat.le_refl _)
                        have hI0 : Ints w5 w5.heap.size (some ⟨g2, 0, none⟩) o2 := HOQ.out.1.ints
                        have hI1 : Ints (w5.alloc (.cells #[] 3)).drew (w5.alloc (.cells #[] 3)).drew.heap.size (some ⟨g2, 0, none⟩) (o2.take i) := ((hI0.take_ i).below ((HB1.out.drew).mono (by omega))).mono (by show w5.heap.size ≤ (w5.alloc (.cells #[] 3)).heap.size; rw [World.size_alloc]; omega)
                        obtain ⟨a3, c3, w3, hr3, ho3, hg3⟩ := app_run_n (n := 0) (k := i) hE (by show w5.heap.size ≤ (w5.alloc (.cells #[] 3)).heap.size; simp) (some ⟨g2, 0, none⟩) d2 (o2.take i) HL1.out hI1 (by omega) (by omega)
                        have hb3' : Below w5.heap.size w5 w3 := (HB1.out.drew).grown hg3 (by show w5.heap.size ≤ (w5.alloc (.cells #[] 3)).heap.size; simp) (fun g e => (World.ownsRow.lt hE g e).1)
                        have hwp : IntKind.i64.wrap ((i : Int) + 1) = (i : Int) + 1 := IntWalk.i64_in _ (by omega)
                        have htp : ((i : Int) + 1).toNat = i + 1 := by omega
                        have hp2 : (0 : Int) ≤ (i : Int) + 1 := by omega
                        have hp3 : (i : Int) + 1 ≤ (n2 : Int) := by omega
                        have hp4 : (n2 : Int) ≤ (d2 : Int) := by omega
                        have hp5 : (i : Int) ≤ (d2 : Int) := by omega
                        by_cases hcc : d2 = i + 1
                        · subst hcc
                          obtain rfl : n2 = i + 1 := by omega
                          have hp6 : (i : Int) ≤ (i : Int) + 1 := by omega
                          obtain ⟨a4, c4, w4, hr4, ho4, hg4⟩ := app_run_n (k := 0) ho3 hb3'.size (some ⟨g2, 0, none⟩) 0 [] rfl (.inl rfl) (by omega) (by omega)
                          have hb4 : Below w5.heap.size w5 w4 := hb3'.grown hg4 hb3'.size (fun g e => (World.ownsRow.lt ho3 g e).1)
                          have HR3 := Lib.hid hr3
                          have HR4 := Lib.hid hr4
                          have HE : Hid (o2.eraseIdx i = o2.take i) := Lib.hid (by rw [List.eraseIdx_eq_take_drop_succ, List.drop_eq_nil_of_le (by rw [HN2.out]; omega), List.append_nil])
                          have HO4 : Hid (OwnN w4 w.heap.size a4 (0 + i + 0) c4 (o2.eraseIdx i)) := Lib.hid (by have h := ownsRow_base ho4 (B := w.heap.size) (by omega); rw [HE.out]; simpa [OwnN] using h)
                          have HW4 := Lib.hid (HOQ.out.2.trans (hb4.mono h5))
                          clear hE hI0 hI1 hr3 ho3 hg3 hb3' hr4 ho4 hg4 hb4
                          go_region_held3 (fun _ => True) (exact trivial)
                            (first
                              | (refine step_run2 (by rfl) _ _ 23 23 (by rfl) (.slice (some ⟨w5.heap.size, 0, none⟩) 0 0) (.slice (some ⟨g2, 0, none⟩) i (i + 1)) (by rfl) (by rfl) ?_; refine ⟨_, _, HR3.out, ?_⟩)
                              | (refine step_run2 (by rfl) _ _ 23 23 (by rfl) (.slice a3 (0 + i) c3) (.slice (some ⟨g2, 0, none⟩) 0 0) (by rfl) (by rfl) ?_; refine ⟨_, _, HR4.out, ?_⟩))
                          clear hwp htp
                          go_wp2
                          go_roundg gi
                          case measure => omega
                          case rel => exact ⟨i, i, st2 + 1, c4, a4, o2.eraseIdx i, by omega, by omega, rfl, by go_num, by go_num, HK.out _ _ HRD.out, by simpa using HO4.out, HW4.out, HRD.out, by have := HI.out.2.2.2.1; omega, fun e => by have := HI.out.2.2.2.1; omega⟩
                        · have hcc' : (i : Int) + 1 < (d2 : Int) := by omega
                          have hcn : ¬ d2 = i + 1 := hcc
                          have hI2 : Ints w3 w3.heap.size (some ⟨g2, i + 1, none⟩) (o2.drop (i + 1)) := by
                            have := ((drop_ints hI0 (i + 1)).below hb3').mono hb3'.size
                            rwa [Nat.zero_add] at this
                          obtain ⟨a4, c4, w4, hr4, ho4, hg4⟩ := app_run_n (k := (n2 - (i + 1))) ho3 hb3'.size (some ⟨g2, i + 1, none⟩) (d2 - (i + 1)) (o2.drop (i + 1)) HL2.out hI2 (by omega) (by omega)
                          have hb4 : Below w5.heap.size w5 w4 := hb3'.grown hg4 hb3'.size (fun g e => (World.ownsRow.lt ho3 g e).1)
                          have HR3 := Lib.hid hr3
                          have HR4 := Lib.hid hr4
                          have HO4 : Hid (OwnN w4 w.heap.size a4 (0 + i + (n2 - (i + 1))) c4 (o2.eraseIdx i)) := Lib.hid (by have h := ownsRow_base ho4 (B := w.heap.size) (by omega); rw [List.eraseIdx_eq_take_drop_succ]; unfold OwnN; rw [List.map_append]; simpa using h)
                          have HW4 := Lib.hid (HOQ.out.2.trans (hb4.mono h5))
                          clear hE hI0 hI1 hr3 ho3 hg3 hb3' hI2 hr4 ho4 hg4 hb4
                          go_region_held3 (fun _ => True) (exact trivial)
                            (first
                              | (refine step_run2 (by rfl) _ _ 23 23 (by rfl) (.slice (some ⟨w5.heap.size, 0, none⟩) 0 0) (.slice (some ⟨g2, 0, none⟩) i d2) (by rfl) (by rfl) ?_; refine ⟨_, _, HR3.out, ?_⟩)
                              | (refine step_run2 (by rfl) _ _ 23 23 (by rfl) (.slice a3 (0 + i) c3) (.slice (some ⟨g2, i + 1, none⟩) (n2 - (i + 1)) (d2 - (i + 1))) (by rfl) (by rfl) ?_; refine ⟨_, _, HR4.out, ?_⟩))
                          clear hwp htp
                          go_wp2
                          go_roundg gi
                          case measure => omega
                          case rel => exact ⟨i, i + (n2 - (i + 1)), st2 + 1, c4, a4, o2.eraseIdx i, by omega, by omega, rfl, by go_num, by go_num, HK.out _ _ HRD.out, by simpa using HO4.out, HW4.out, HRD.out, by have := HI.out.2.2.2.1; omega, fun e => by have := HI.out.2.2.2.1; omega⟩
                      · have hb3 : (x != x) = false := by simp
                        have hb4 : decide ((kk : Int) < (i : Int)) = true := by rw [decide_eq_true_eq]; omega
                        have hb4' : decide (kk < i) = true := by rw [decide_eq_true_eq]; exact hlt
                        go_wp2
                        go_quiet (fail)
                        go_wp2_with fail
                        have HOQ : Hid (OwnN (wr.drewN nq) w.heap.size (some ⟨g2, 0, none⟩) n2 d2 o2 ∧ Below w.heap.size w (wr.drewN nq)) := Lib.hid ⟨HKK.out.1, below_drewN HKK.out.2.1 _⟩
                        clear HKK ci ck
                        generalize wr.drewN nq = w5 at HOQ ⊢
                        have h5 : w.heap.size ≤ w5.heap.size := HOQ.out.2.size
                        have HL1 : Hid ((o2.take i).length = i) := Lib.hid (by rw [List.length_take, HN2.out]; omega)
                        have HL2 : Hid ((o2.drop (i + 1)).length = (n2 - (i + 1))) := Lib.hid (by rw [List.length_drop, HN2.out])
                        have HB1 := Lib.hid (below1 w5 (.cells #[] 3))
                        have hE : OwnI (w5.alloc (.cells #[] 3)).drew w5.heap.size (.slice (some ⟨w5.heap.size, 0, none⟩) 0 0) [] := own_empty (w := (w5.alloc (.cells #[] 3)).drew) (alloc_new w5 _) (Nat.le_refl _)
                        have hI0 : Ints w5 w5.heap.size (some ⟨g2, 0, none⟩) o2 := HOQ.out.1.ints
                        have hI1 : Ints (w5.alloc (.cells #[] 3)).drew (w5.alloc (.cells #[] 3)).drew.heap.size (some ⟨g2, 0, none⟩) (o2.take i) := ((hI0.take_ i).below ((HB1.out.drew).mono (by omega))).mono (by show w5.heap.size ≤ (w5.alloc (.cells #[] 3)).heap.size; rw [World.size_alloc]; omega)
                        obtain ⟨a3, c3, w3, hr3, ho3, hg3⟩ := app_run_n (n := 0) (k := i) hE (by show w5.heap.size ≤ (w5.alloc (.cells #[] 3)).heap.size; simp) (some ⟨g2, 0, none⟩) d2 (o2.take i) HL1.out hI1 (by omega) (by omega)
                        have hb3' : Below w5.heap.size w5 w3 := (HB1.out.drew).grown hg3 (by show w5.heap.size ≤ (w5.alloc (.cells #[] 3)).heap.size; simp) (fun g e => (World.ownsRow.lt hE g e).1)
                        have hwp : IntKind.i64.wrap ((i : Int) + 1) = (i : Int) + 1 := IntWalk.i64_in _ (by omega)
                        have htp : ((i : Int) + 1).toNat = i + 1 := by omega
                        have hp2 : (0 : Int) ≤ (i : Int) + 1 := by omega
                        have hp3 : (i : Int) + 1 ≤ (n2 : Int) := by omega
                        have hp4 : (n2 : Int) ≤ (d2 : Int) := by omega
                        have hp5 : (i : Int) ≤ (d2 : Int) := by omega
                        by_cases hcc : d2 = i + 1
                        · subst hcc
                          obtain rfl : n2 = i + 1 := by omega
                          have hp6 : (i : Int) ≤ (i : Int) + 1 := by omega
                          obtain ⟨a4, c4, w4, hr4, ho4, hg4⟩ := app_run_n (k := 0) ho3 hb3'.size (some ⟨g2, 0, none⟩) 0 [] rfl (.inl rfl) (by omega) (by omega)
                          have hb4 : Below w5.heap.size w5 w4 := hb3'.grown hg4 hb3'.size (fun g e => (World.ownsRow.lt ho3 g e).1)
                          have HR3 := Lib.hid hr3
                          have HR4 := Lib.hid hr4
                          have HE : Hid (o2.eraseIdx i = o2.take i) := Lib.hid (by rw [List.eraseIdx_eq_take_drop_succ, List.drop_eq_nil_of_le (by rw [HN2.out]; omega), List.append_nil])
                          have HO4 : Hid (OwnN w4 w.heap.size a4 (0 + i + 0) c4 (o2.eraseIdx i)) := Lib.hid (by have h := ownsRow_base ho4 (B := w.heap.size) (by omega); rw [HE.out]; simpa [OwnN] using h)
                          have HW4 := Lib.hid (HOQ.out.2.trans (hb4.mono h5))
                          clear hE hI0 hI1 hr3 ho3 hg3 hb3' hr4 ho4 hg4 hb4
                          go_region_held3 (fun _ => True) (exact trivial)
                            (first
                              | (refine step_run2 (by rfl) _ _ 23 23 (by rfl) (.slice (some ⟨w5.heap.size, 0, none⟩) 0 0) (.slice (some ⟨g2, 0, none⟩) i (i + 1)) (by rfl) (by rfl) ?_; refine ⟨_, _, HR3.out, ?_⟩)
                              | (refine step_run2 (by rfl) _ _ 23 23 (by rfl) (.slice a3 (0 + i) c3) (.slice (some ⟨g2, 0, none⟩) 0 0) (by rfl) (by rfl) ?_; refine ⟨_, _, HR4.out, ?_⟩))
                          clear hwp htp
                          go_wp2
                          go_roundg gi
                          case measure => omega
                          case rel => exact ⟨i, i, st2 + 1, c4, a4, o2.eraseIdx i, by omega, by omega, rfl, by go_num, by go_num, HK.out _ _ HRD.out, by simpa using HO4.out, HW4.out, HRD.out, by have := HI.out.2.2.2.1; omega, fun e => by have := HI.out.2.2.2.1; omega⟩
                        · have hcc' : (i : Int) + 1 < (d2 : Int) := by omega
                          have hcn : ¬ d2 = i + 1 := hcc
                          have hI2 : Ints w3 w3.heap.size (some ⟨g2, i + 1, none⟩) (o2.drop (i + 1)) := by
                            have := ((drop_ints hI0 (i + 1)).below hb3').mono hb3'.size
                            rwa [Nat.zero_add] at this
                          obtain ⟨a4, c4, w4, hr4, ho4, hg4⟩ := app_run_n (k := (n2 - (i + 1))) ho3 hb3'.size (some ⟨g2, i + 1, none⟩) (d2 - (i + 1)) (o2.drop (i + 1)) HL2.out hI2 (by omega) (by omega)
                          have hb4 : Below w5.heap.size w5 w4 := hb3'.grown hg4 hb3'.size (fun g e => (World.ownsRow.lt ho3 g e).1)
                          have HR3 := Lib.hid hr3
                          have HR4 := Lib.hid hr4
                          have HO4 : Hid (OwnN w4 w.heap.size a4 (0 + i + (n2 - (i + 1))) c4 (o2.eraseIdx i)) := Lib.hid (by have h := ownsRow_base ho4 (B := w.heap.size) (by omega); rw [List.eraseIdx_eq_take_drop_succ]; unfold OwnN; rw [List.map_append]; simpa using h)
                          have HW4 := Lib.hid (HOQ.out.2.trans (hb4.mono h5))
                          clear hE hI0 hI1 hr3 ho3 hg3 hb3' hI2 hr4 ho4 hg4 hb4
                          go_region_held3 (fun _ => True) (exact trivial)
                            (first
                              | (refine step_run2 (by rfl) _ _ 23 23 (by rfl) (.slice (some ⟨w5.heap.size, 0, none⟩) 0 0) (.slice (some ⟨g2, 0, none⟩) i d2) (by rfl) (by rfl) ?_; refine ⟨_, _, HR3.out, ?_⟩)
                              | (refine step_run2 (by rfl) _ _ 23 23 (by rfl) (.slice a3 (0 + i) c3) (.slice (some ⟨g2, i + 1, none⟩) (n2 - (i + 1)) (d2 - (i + 1))) (by rfl) (by rfl) ?_; refine ⟨_, _, HR4.out, ?_⟩))
                          clear hwp htp
                          go_wp2
                          go_roundg gi
                          case measure => omega
                          case rel => exact ⟨i, i + (n2 - (i + 1)), st2 + 1, c4, a4, o2.eraseIdx i, by omega, by omega, rfl, by go_num, by go_num, HK.out _ _ HRD.out, by simpa using HO4.out, HW4.out, HRD.out, by have := HI.out.2.2.2.1; omega, fun e => by have := HI.out.2.2.2.1; omega⟩
                  · have hb2 : (bits .andNot .i64 x y == 0) = false := by rw [HLE.out, decide_eq_false hsub]
                    have HN' : Hid (∀ k', k' < kk + 1 → ∀ y, i ≠ k' → o2[k']? = some y → subZ x y → x = y ∧ i ≤ k') := Lib.hid fun k' hk' y' hne hy' hs => by
                      by_cases e : k' = kk
                      · subst e; rw [HY.out] at hy'; obtain rfl := Option.some.inj hy'; exact (hsub hs).elim
                      · exact HKK.out.2.2 k' (by omega) y' hne hy' hs
                    clear hsub
                    go_wp2
                    go_quiet (fail)
                    go_wp2
                    go_roundg gj
                    case measure => omega
                    case rel => exact ⟨kk + 1, by omega, rfl, rfl, rfl, by go_num, HKK.out.1, below_drewN HKK.out.2.1 _, HN'.out⟩
      | succ gv =>
        have hv6 : v < 6 := by omega
        have hvi : (v : Int) < 6 := by omega
        have HN : Hid (o1.length = n) := Lib.hid HV.out.1.len
        obtain ⟨wo, hwo⟩ : ∃ wo, wo = wr := ⟨wr, rfl⟩
        go_wp2
        go_loopg [8, 9, 10] n (fun gi s8 s9 s10 wi => ∃ (i m q : Nat), i + gi = n ∧ s10 = .int .i64 (i : Int) ∧ s8 = .int .i64 (m : Int) ∧ s9 = .int .i64 (q : Int) ∧ m ≤ i ∧ Hid (m = (o1.take i).countP (Bt v) ∧ (m ≠ 0 → q < i ∧ Bt v (o1[q]?.getD 0) = true)) ∧ wr = wi)
        case atStart => exact ⟨0, 0, 0, by omega, rfl, rfl, rfl, Nat.le_refl _, ⟨by simp, fun h => absurd rfl h⟩, rfl⟩
        case round =>
          obtain ⟨i, m, q, hig, rfl, rfl, rfl, hmi, HM, rfl⟩ := hrel
          cases gk with
          | zero =>
            obtain rfl : i = n := by omega
            have HM1 : Hid (m = o1.countP (Bt v)) := Lib.hid (by have := HM.out.1; rwa [List.take_of_length_le (by rw [HN.out]; exact Nat.le_refl _)] at this)
            by_cases h1 : m = 1
            · subst h1
              obtain ⟨hq, hqb⟩ := HM.out.2 (by omega)
              obtain ⟨x, hx⟩ : ∃ x, o1[q]? = some x := ⟨_, List.getElem?_eq_getElem (by rw [HN.out]; exact hq)⟩
              obtain ⟨g', rfl, hg1, hg2, hc, hfz, hset⟩ := own_wr6 HV.out.1 hq
              rw [hx, Option.getD_some] at hqb hc
              obtain ⟨hx0, hx1⟩ := HS64.out _ _ HV.out.2.2.1 x (List.mem_of_getElem? hx)
              have HR1 : Hid (RedS k zs (o1.set q (woZ v x)) (st1 + 1)) := Lib.hid (HV.out.2.2.1.cut hk6 hv6 HM1.out.symm hx hqb)
              have hw : bits .andNot .i64 x (2 ^ v) = woZ v x := by
                have := wo_at x.toNat v hx1 hv6
                rw [Int.toNat_of_nonneg hx0] at this
                exact this
              have hww : bits .andNot .i64 x (IntKind.i64.wrap (2 ^ v)) = woZ v x := by
                rw [show IntKind.i64.wrap (2 ^ v) = (2 ^ v : Int) from by
                  match v, hv6 with
                  | 0, _ => rfl
                  | 1, _ => rfl
                  | 2, _ => rfl
                  | 3, _ => rfl
                  | 4, _ => rfl
                  | 5, _ => rfl]
                exact hw
              obtain ⟨y, hy⟩ : ∃ y, y = woZ v x := ⟨_, rfl⟩
              rw [← hy] at HR1 hw hww
              have HSET := Lib.hid (hset y)
              have hq0 : (0 : Int) ≤ (q : Int) := by omega
              have hqi : (q : Int) < (i : Int) := by omega
              have hv0 : (0 : Int) ≤ (v : Int) := by omega
              have HV2 := HV.out.2
              have hst14 := HK.out _ _ HR1.out
              clear hx hqb hset hy HM
              go_wp2
              go_still_tail 10, (by kernel_rfl)
              repeat still_step
              try refine wpStill_nil ?_
              change wpList _ _ _ _ _ wr.drew
              go_wp2
              go_roundg gv
              case measure => omega
              case rel => exact ⟨v + 1, st1 + 1, o1.set q y, by omega, by go_num, by go_num, by omega, HSET.out, (HV2.1.drew).setCell (p := ⟨g', q, none⟩) (by show w.heap.size ≤ g'; omega) _, HR1.out, by have := HV2.2.2.1; omega, fun e => by have := HV2.2.2.1; omega⟩
            · have hb1 : ((m : Int) == 1) = false := by rw [beq_eq_false_iff_ne]; omega
              have hb2 : (m == 1) = false := by rw [beq_eq_false_iff_ne]; exact h1
              have HV1 := HV.out
              have HNE : Hid (st1 = st → ∀ u, u < v + 1 → o1.countP (Bt u) ≠ 1) := Lib.hid fun e u hu => by
                by_cases eu : u = v
                · subst eu; rw [← HM1.out]; exact h1
                · exact HV1.2.2.2.2 e u (by omega)
              clear HM HV1 h1
              go_wp2
              go_roundg gv
              case measure => omega
              case rel => exact ⟨v + 1, st1, o1, by omega, by go_num, rfl, hst1, HV.out.1, HV.out.2.1, HV.out.2.2.1, HV.out.2.2.2.1, HNE.out⟩
          | succ gi =>
            have hin : i < n := by omega
            have hii : (i : Int) < (n : Int) := by omega
            have hi0 : (0 : Int) ≤ (i : Int) := by omega
            obtain ⟨g', rfl, hg1, hg2, hc, -, -⟩ := own_wr6 HV.out.1 hin
            obtain ⟨x, hx⟩ : ∃ x, x = o1[i]?.getD 0 := ⟨_, rfl⟩
            have hxm : x ∈ o1 := by rw [hx]; exact at_in (by rw [HN.out]; exact hin)
            obtain ⟨hx0, hx1⟩ := HS64.out _ _ HV.out.2.2.1 x hxm
            have hx63 : x ≤ 63 := by omega
            have hct := cnt_take v o1 (i := i) (by rw [HN.out]; exact hin)
            rw [← hx] at hc hct
            have hbt := bt_int hx0 hx1 hv6
            have hv0 : (0 : Int) ≤ (v : Int) := by omega
            have hm1 : m ≤ 8 := by omega
            cases hb : Bt v x
            · rw [hb] at hbt hct
              simp only [Bool.false_eq_true, if_false] at hbt
              have HM2 : Hid (m = (o1.take (i + 1)).countP (Bt v) ∧ (m ≠ 0 → q < i + 1 ∧ Bt v (o1[q]?.getD 0) = true)) := Lib.hid ⟨by rw [hct]; simpa using HM.out.1, fun h => ⟨by have := (HM.out.2 h).1; omega, (HM.out.2 h).2⟩⟩
              clear HM hct hx hb hxm
              go_wp2
              go_roundg gi
              case measure => omega
              case rel => exact ⟨i + 1, m, q, by omega, by go_num, rfl, rfl, by omega, HM2.out, rfl⟩
            · rw [hb] at hbt hct
              simp only [if_true] at hbt
              have HM2 : Hid (m + 1 = (o1.take (i + 1)).countP (Bt v) ∧ (m + 1 ≠ 0 → i < i + 1 ∧ Bt v (o1[i]?.getD 0) = true)) := Lib.hid ⟨by rw [hct]; have := HM.out.1; simp; omega, fun h => ⟨by omega, by rw [← hx]; exact hb⟩⟩
              clear HM hct hx hb hxm
              go_wp2
              go_roundg gi
              case measure => omega
              case rel => exact ⟨i + 1, m + 1, i, by omega, by go_num, by go_num, rfl, by omega, HM2.out, rfl⟩

end Go.Proofs.YtnpfdgbbcapnkaaDoor
