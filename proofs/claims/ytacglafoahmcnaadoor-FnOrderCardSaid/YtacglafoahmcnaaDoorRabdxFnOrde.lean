/- It is proved what l6eOrder and EarOrder of the model return; conditions: those of each statement. -/
import Derived.RowKit
import Derived.Laws.CopyRow
import Derived.Lib.SlBuf
import Derived.Deep.QuietTactic
import Derived.RangeFuncNested
import Derived.RangeFuncBound
import Derived.RangeFuncCalls
import Derived.RangeFuncLeaves
import Derived.RangeFuncBox
import Derived.RangeFuncWrites
import Derived.StillTailTactics
import Derived.Maps.OwnIn
import Derived.Maps.Ext
import Derived.DeepKeys4
import Derived.MapKept
import Derived.Test.YtacglafoahmcnaaDoorRows
import Derived.WalkKit
import Derived.WalkSpells
import Derived.ProofKit
import Derived.OpenShut
import Derived.ShutString
import Derived.ChangeOld
import Derived.Below
import Derived.Deep.RegionHeld3
import Derived.BigQuiet
import Derived.Lib.Hide
import Derived.Lib.SmallJoins
import Derived.Outline
import Derived.Laws.MakeOwn
import Derived.Laws.OwnMore
import Derived.IntWalk
import Derived.Deep.RegionLaw
import Derived.Deep.AppendLies
import Derived.Lib.AppendZeros
import Derived.Maps.AppendAt
import Derived.OwnWalk
import Derived.Lib.SlicesCompact
import Derived.Lib.OwnBridge
import Derived.OrdersIn
import Derived.TacticsIn
import Derived.Shelf.Sort.Plain
import Derived.Shelf.Slices.In.SortNone
import Derived.Shelf.Slices.CompactI
import Derived.Ground.Names2Prog
import Derived.Lib.SliceRun
import Derived.Shelf.Abstract
import Derived.Shelf.RegionOpen
import Derived.OwnWalkIn
import Derived.TacticsInMore
import Derived.LoopNIn
import Derived.LoopIn
import Derived.StillTail
import Derived.StillTactics
import Derived.Shelf.Spec.TrailingZeros
import Derived.Deep.LoopGhost
import Derived.Test.YtacglafoahmcnaaDoorRaah
import Derived.Test.YtacglafoahmcnaaDoorRaaa
import Derived.Test.YtacglafoahmcnaaDoorDb
import Derived.Test.YtacglafoahmcnaaDoorRaap
import Derived.Test.YtacglafoahmcnaaDoorRaac
import Derived.Test.YtacglafoahmcnaaDoorRaag
import Derived.Test.YtacglafoahmcnaaDoorRaad
import Derived.Test.YtacglafoahmcnaaDoorRabcxFnOrde
import Derived.Test.YtacglafoahmcnaaDoorRaab
import Derived.Test.YtacglafoahmcnaaDoorRaal
import Derived.Test.YtacglafoahmcnaaDoorRaazxFnOrde
import Derived.Test.YtacglafoahmcnaaDoorRaam
import Derived.Test.YtacglafoahmcnaaDoorRaai
import Derived.Test.YtacglafoahmcnaaDoorYa
import Derived.Test.YtacglafoahmcnaaDoorRaat
import Derived.Sort.MapsRangeIn
import Derived.Test.YtacglafoahmcnaaDoorRaaw
import Derived.Test.YtacglafoahmcnaaDoorRaaq
import Derived.Test.YtacglafoahmcnaaDoorRabaxFnOrde
import Derived.Test.YtacglafoahmcnaaDoorRaae
namespace Go.Proofs.YtacglafoahmcnaaDoor
open Go.RowKit

theorem own_uno {W : World} {B g : Nat} {z : Int} (h : W.heap[g]? = some (.cells #[.int .i64 z] 3 (0, 0))) (hB : B ≤ g) : OwnI W B (.slice (some ⟨g, 0, none⟩) 1 1) [z] :=
  ⟨rfl, .inr ⟨g, 1, #[.int .i64 z], rfl, hB, h, Nat.le_refl _, by simp [maxLen], rfl, rfl⟩⟩

theorem ord_zero (f : Nat) (zs : List Int) : ordN f zs 0 = some [] := by cases f <;> simp [ordN]
theorem ord_step (f : Nat) (zs : List Int) (t : Nat) : ordN (f + 1) zs t = if t = 0 then some [] else match (memK 6 t).find? fun v => leavB v zs with
    | none => none
    | some v => (ordN f (zs.map (woZ v)) (lessP t v)).map fun l => (v : Int) :: l := rfl

theorem ord_none {f : Nat} {zs : List Int} {t : Nat} (h0 : t ≠ 0) (h : ∀ u, t.testBit u = true → leavB u zs = true → ordN (f + 1) zs t = none) : ordN (f + 1) zs t = none := by
  cases hf : (memK 6 t).find? fun v => leavB v zs with
  | none => rw [ord_step, if_neg h0, hf]
  | some v =>
    obtain ⟨hv6, hv⟩ := mem_six.1 (List.mem_of_find?_eq_some hf)
    exact h v hv (List.find?_some (p := fun v => leavB v zs) hf)

theorem ord_first {f : Nat} {zs : List Int} {t v : Nat} (hv6 : v < 6) (h0 : t ≠ 0) (hv : t.testBit v = true) (hl : leavB v zs = true) (h : ∀ u, u < v → t.testBit u = true → leavB u zs = true → False) :
    ordN (f + 1) zs t = (ordN f (zs.map (woZ v)) (lessP t v)).map fun l => (v : Int) :: l := by
  have hf : ((memK 6 t).find? fun v => leavB v zs) = some v := by
    unfold memK
    rw [List.find?_filter, List.find?_range_eq_some]
    refine ⟨by rw [hv, hl]; rfl, List.mem_range.2 hv6, fun u hu => ?_⟩
    cases h1 : t.testBit u
    · simp
    · cases h2 : leavB u zs
      · simp
      · exact (h u hu h1 h2).elim
  rw [ord_step, if_neg h0, hf]

set_option maxRecDepth 100000 in
theorem less_at_fin : ∀ t : Fin 64, ∀ v : Fin 6, bits .andNot .i64 (t.val : Int) (2 ^ v.val) = ((lessP t.val v.val : Nat) : Int) := by decide +kernel

theorem less_at {t v : Nat} (ht : t < 64) (hv : v < 6) : bits .andNot .i64 (t : Int) (2 ^ v) = ((lessP t v : Nat) : Int) := less_at_fin ⟨t, ht⟩ ⟨v, hv⟩
theorem wrap_two {v : Nat} (hv : v < 6) : IntKind.i64.wrap (2 ^ v) = (2 ^ v : Int) := by
  match v, hv with
  | 0, _ => rfl
  | 1, _ => rfl
  | 2, _ => rfl
  | 3, _ => rfl
  | 4, _ => rfl
  | 5, _ => rfl

theorem l6eOrder_zero (a : Option Addr) (c n : Nat) (w : World) :
    Calls Tryd.prog 61 #[.slice a n c, .int .i64 ((0 : Nat) : Int)] w (RetSB w ((some ([] : List Int)).getD []) (some ([] : List Int)).isSome) := by
  go_enter Tryd.func61, Tryd.ntmps61
  go_wp2
  go_ret2
  exact ⟨some ⟨w.heap.size, 0, none⟩, 0, rfl, own_empty (alloc_new w _) (Nat.le_refl _), below1 w _⟩

set_option maxRecDepth 100000 in
set_option maxHeartbeats 8000000 in
theorem l6eOrder_any (k : Nat) (hk6 : k ≤ 6) : ∀ (f : Nat) (a : Option Addr) (c : Nat) (zs : List Int) (t : Nat) (w : World) (_ : Ints w w.heap.size a zs) (_ : zs.length ≤ 8) (_ : Sets k zs) (_ : t < 64) (_ : (memK 6 t).length ≤ f),
    Calls Tryd.prog 61 #[.slice a zs.length c, .int .i64 (t : Int)] w (RetSB w ((ordN f zs t).getD []) (ordN f zs t).isSome) := by
  intro f
  induction f with
  | zero =>
    intro a c zs t w ha h8 hz ht hc
    have : t = 0 := by
      by_cases e : t = 0
      · exact e
      · obtain ⟨i, hi⟩ := Nat.exists_testBit_of_ne_zero e
        have := List.length_pos_of_mem (mem_six.2 ⟨bit_six ht hi, hi⟩)
        omega
    subst this
    rw [ord_zero]
    exact l6eOrder_zero a c zs.length w
  | succ f ih =>
    intro a c zs t w ha h8 hz ht hc
    by_cases h0 : t = 0
    · subst h0
      rw [ord_zero]
      exact l6eOrder_zero a c zs.length w
    obtain ⟨i0, hi0, hz0, hz1, hz2⟩ := info_parts Tryd.info3
    have HS := Lib.hid hz
    have HI := Lib.hid ha
    have H0 := Lib.hid h0
    have hb0 : ((t : Int) == 0) = false := by rw [beq_eq_false_iff_ne]; omega
    have hb0' : (t == 0) = false := by rw [beq_eq_false_iff_ne]; exact h0
    have HIH : Hid (∀ v : Nat, v < 6 → t.testBit v = true → ∀ b d W, Ints W W.heap.size b (zs.map (woZ v)) → Calls Tryd.prog 61 #[.slice b zs.length d, .int .i64 ((lessP t v : Nat) : Int)] W (RetSB W ((ordN f (zs.map (woZ v)) (lessP t v)).getD []) (ordN f (zs.map (woZ v)) (lessP t v)).isSome)) := Lib.hid fun v hv hb b d W hi => by
      have := ih b d (zs.map (woZ v)) (lessP t v) W hi (by rw [List.length_map]; exact h8) (woZ_sets hz) (less_lt ht hv) (by have := less_cnt ht hv hb; omega)
      rwa [List.length_map] at this
    have HSAME : Hid (∀ v : Nat, t.testBit v = true → leavB v zs = true → (ordN (f + 1) zs t).isSome = (ordN f (zs.map (woZ v)) (lessP t v)).isSome) := Lib.hid fun v hv hl => ord_same hk6 hz ht hc hv hl
    have HLEN : Hid (∀ l, ordN (f + 1) zs t = some l → l.length ≤ 6) := Lib.hid fun l h => by
      have := ord_len hk6 (f + 1) zs t l hz ht hc h
      have := memK_len 6 t
      omega
    have HFR : Hid (∀ v : Nat, v < 6 → ∀ W, Ints W W.heap.size a zs → Calls Tryd.prog 95 #[.slice a zs.length c, .int .i64 (v : Int)] W fun e w' => e = .returned (.bool (leavB v zs)) ∧ W = w') := Lib.hid fun v hv W hi => l6eFree_any k hk6 v hv a c zs W hi h8 hz
    obtain ⟨n, hn⟩ : ∃ n, n = zs.length := ⟨_, rfl⟩
    have HN := Lib.hid hn
    obtain ⟨R, hR⟩ : ∃ R, R = ordN (f + 1) zs t := ⟨_, rfl⟩
    have HR := Lib.hid hR
    have HNONE : Hid ((∀ u : Nat, t.testBit u = true → leavB u zs = true → R = none) → R = none) := Lib.hid fun h => by rw [hR] at h ⊢; exact ord_none h0 h
    have HFIRST : Hid (∀ v : Nat, v < 6 → t.testBit v = true → leavB v zs = true → (∀ u, u < v → t.testBit u = true → leavB u zs = true → False) → R = (ordN f (zs.map (woZ v)) (lessP t v)).map fun l => (v : Int) :: l) := Lib.hid fun v hv6 hv hl h => by rw [hR]; exact ord_first hv6 h0 hv hl h
    rw [← hn] at h8 HIH HFR ⊢
    rw [← hR] at HSAME HLEN ⊢
    have ht64 : (t : Int) < 64 := by omega
    clear ha hz h0 hn hR ih hc
    go_enter Tryd.func61, Tryd.ntmps61
    go_wp2
    go_loopg [6, 7, 8, 9, 10] 6 (fun g s6 s7 s8 s9 s10 wr => ∃ v : Nat, v + g = 6 ∧ s6 = .int .i64 (v : Int) ∧ Hid ((∀ u, u < v → t.testBit u = true → leavB u zs = true → R = none) ∧ Below w.heap.size w wr))
    case atStart => exact ⟨0, by omega, rfl, fun u hu => by omega, Below.refl _ _⟩
    case round =>
      obtain ⟨v, hvg, rfl, HV⟩ := hrel
      have hv0 : (0 : Int) ≤ (v : Int) := by omega
      have hsz : w.heap.size ≤ wr.heap.size := HV.out.2.size
      by_cases hq : t / 2 ^ v = 0
      · have hqi : (t : Int) / 2 ^ v = 0 := by exact_mod_cast hq
        have HRN : Hid (R = none) := Lib.hid (HNONE.out fun u hu hl => by
          by_cases e : u < v
          · exact HV.out.1 u e hu hl
          · exfalso
            have hlt : t < 2 ^ v := by
              rcases Nat.lt_or_ge t (2 ^ v) with h | h
              · exact h
              · have := Nat.div_pos h (Nat.two_pow_pos v); omega
            have : t.testBit u = false := Nat.testBit_lt_two_pow (Nat.lt_of_lt_of_le hlt (Nat.pow_le_pow_right (n := 2) (by decide) (by omega)))
            rw [hu] at this; cases this)
        have HBW := Lib.hid HV.out.2
        clear HV hq
        go_wp2
        go_ret2
        rw [HRN.out]
        exact ⟨some ⟨wr.heap.size, 0, none⟩, 0, rfl, own_empty (alloc_new wr _) hsz, HBW.out.alloc hsz _⟩
      · have hv6 : v < 6 := by
          rcases Nat.lt_or_ge v 6 with h | h
          · exact h
          · exfalso
            apply hq
            exact Nat.div_eq_of_lt (Nat.lt_of_lt_of_le ht (Nat.le_trans (show 64 ≤ 2 ^ 6 by decide) (Nat.pow_le_pow_right (n := 2) (by decide) h)))
        have hqi : (0 : Int) < (t : Int) / 2 ^ v := by
          have h1 : 0 < t / 2 ^ v := Nat.pos_of_ne_zero hq
          have h2 : ((t / 2 ^ v : Nat) : Int) = (t : Int) / 2 ^ v := by push_cast; rfl
          rw [← h2]
          exact Int.ofNat_lt.2 h1
        obtain ⟨g, rfl⟩ : ∃ g, gk = g + 1 := ⟨gk - 1, by omega⟩
        have hbt := bt_int (z := (t : Int)) (by omega) (by rw [Int.toNat_natCast]; exact ht) hv6
        clear hq
        cases hb : t.testBit v
        · rw [show Bt v (t : Int) = false from hb] at hbt
          simp only [Bool.false_eq_true, if_false] at hbt
          have HV2 : Hid ((∀ u, u < v + 1 → t.testBit u = true → leavB u zs = true → R = none) ∧ Below w.heap.size w wr) := Lib.hid ⟨fun u hu hbu => by
            by_cases e : u = v
            · subst e; rw [hb] at hbu; cases hbu
            · exact HV.out.1 u (by omega) hbu, HV.out.2⟩
          clear hb HV
          go_wp2
          go_roundg g
          case measure => omega
          case rel => exact ⟨v + 1, by omega, by go_num, HV2.out⟩
        · rw [show Bt v (t : Int) = true from hb] at hbt
          simp only [if_true] at hbt
          have HBT := Lib.hid hb
          have HIW := Lib.hid ((HI.out.below HV.out.2).mono hsz)
          clear hb
          go_wp2_with fail
          refine (HFR.out v hv6 _ HIW.out).mono ?_
          rintro e w2 ⟨rfl, rfl⟩
          cases hl : leavB v zs
          · have HV2 : Hid ((∀ u, u < v + 1 → t.testBit u = true → leavB u zs = true → R = none) ∧ Below w.heap.size w wr) := Lib.hid ⟨fun u hu hbu hlu => by
              by_cases e : u = v
              · subst e; rw [hl] at hlu; cases hlu
              · exact HV.out.1 u (by omega) hbu hlu, HV.out.2⟩
            clear hl HV
            go_wp2
            go_roundg g
            case measure => omega
            case rel => exact ⟨v + 1, by omega, by go_num, HV2.out⟩
          · have HLV := Lib.hid hl
            have hw2 := wrap_two hv6
            have hlt2 := less_at ht hv6
            have HE : Hid (OwnN (wr.alloc (.cells #[] 3)) w.heap.size (some ⟨wr.heap.size, 0, none⟩) 0 0 ((zs.take 0).map (woZ v)) ∧ Below w.heap.size w (wr.alloc (.cells #[] 3))) := Lib.hid ⟨own_empty (alloc_new wr _) hsz, HV.out.2.alloc hsz _⟩
            clear hl
            go_wp2
            go_loopg [7, 8] n (fun g2 s7 s8 wi => ∃ (i : Nat) (b : Option Addr) (d : Nat), i + g2 = n ∧ s8 = .int .i64 (i : Int) ∧ s7 = .slice b i d ∧ Hid (OwnN wi w.heap.size b i d ((zs.take i).map (woZ v)) ∧ Below w.heap.size w wi))
            case atStart => exact ⟨0, _, _, by omega, rfl, rfl, HE.out⟩
            case round =>
              obtain ⟨i, b, d, hig, rfl, rfl, HO⟩ := hrel
              have hszi : w.heap.size ≤ wr.heap.size := HO.out.2.size
              cases gk with
              | zero =>
                obtain rfl : i = n := by omega
                have HO2 : Hid (OwnN wr w.heap.size b i d (zs.map (woZ v))) := Lib.hid (by have := HO.out.1; rwa [List.take_of_length_le (by rw [← HN.out]; exact Nat.le_refl _)] at this)
                have HBW := Lib.hid HO.out.2
                have HC := Lib.hid (HIH.out v hv6 HBT.out b d wr HO2.out.ints)
                have HSM := Lib.hid (HSAME.out v HBT.out HLV.out)
                have HFI := Lib.hid (HFIRST.out v hv6 HBT.out HLV.out)
                obtain ⟨r, hr⟩ : ∃ r, r = ordN f (zs.map (woZ v)) (lessP t v) := ⟨_, rfl⟩
                rw [← hr] at HC HSM HFI
                clear HE HO hr
                go_wp2_with fail
                refine HC.out.mono ?_
                rintro e w5 ⟨a5, c5, rfl, ho5, hb5⟩
                have hs5 : wr.heap.size ≤ w5.heap.size := hb5.size
                have HB5 := Lib.hid (HBW.out.trans (hb5.mono hszi))
                cases r with
                | none =>
                  have HV2 : Hid ((∀ u, u < v + 1 → t.testBit u = true → leavB u zs = true → R = none) ∧ Below w.heap.size w w5) := Lib.hid ⟨fun u hu hbu hlu => by
                    by_cases e : u = v
                    · cases hRR : R with
                      | none => rfl
                      | some l => have := HSM.out; rw [hRR] at this; cases this
                    · exact HV.out.1 u (by omega) hbu hlu, HB5.out⟩
                  clear HV HC HSM HFI hb5 ho5
                  go_wp2
                  go_roundg g
                  case measure => omega
                  case rel => exact ⟨v + 1, by omega, by go_num, HV2.out⟩
                | some l =>
                  have HRL : Hid (R = some ((v : Int) :: l)) := Lib.hid (HFI.out fun u hu hbu hlu => by
                    have h1 := HV.out.1 u hu hbu hlu
                    have h2 := HSM.out
                    rw [h1] at h2; cases h2)
                  have hll : l.length ≤ 5 := by have := HLEN.out _ HRL.out; rw [List.length_cons] at this; omega
                  have HIL : Hid (Ints (w5.alloc (.cells #[.int .i64 (v : Int)] 3)) (w5.alloc (.cells #[.int .i64 (v : Int)] 3)).heap.size a5 l) := Lib.hid (((own_ints ho5).below (below1 w5 _)).mono (by simp))
                  obtain ⟨a6, c6, w6, hrun, ho6, hg6⟩ := app_run_t (t := l.length + 1) (own_uno (B := w.heap.size) (alloc_new w5 (.cells #[.int .i64 (v : Int)] 3)) (by omega)) (by simp; omega) a5 c5 l rfl HIL.out (by simp; omega) (by simp) (by omega)
                  have HRUN := Lib.hid hrun
                  have HO6 := Lib.hid ho6
                  have HB6 : Hid (Below w.heap.size w w6) := Lib.hid ((HB5.out.alloc (by omega) _).grown hg6 (by simp; omega) (fun g e => by simp [Value.ownBlock] at e; omega))
                  clear hqi hbt hb0 hb0' hw2 hlt2
                  clear HV HC HSM HFI hb5 ho5 hrun ho6 hg6 HIL
                  go_wp2_with (at_builtin; refine Lib.wpList_append_run _ rfl _ _ 23 23 rfl _ _ rfl rfl _ _ HRUN.out ?_)
                  go_ret2
                  rw [HRL.out]
                  refine ⟨a6, c6, by rw [Option.getD_some, List.length_cons]; rfl, ?_, HB6.out⟩
                  have := HO6.out
                  unfold OwnI
                  rw [Option.getD_some, List.length_cons]
                  exact this
              | succ g2 =>
                have hin : i < n := by omega
                have hii : (i : Int) < (n : Int) := by omega
                have hi0' : (0 : Int) ≤ (i : Int) := by omega
                obtain ⟨bz, oz, rfl, hbz, hcz⟩ := (HI.out.below HO.out.2).at_ (k := i) (by rw [← HN.out]; exact hin)
                obtain ⟨z, hz⟩ : ∃ z, z = zs[i]?.getD 0 := ⟨_, rfl⟩
                have hzm : z ∈ zs := by rw [hz]; exact at_in (by rw [← HN.out]; exact hin)
                have hzz0 : 0 ≤ z := (HS.out z hzm).1
                have hz64 : z.toNat < 64 := p64 hk6 (HS.out z hzm).2
                have hwo : bits .andNot .i64 z (2 ^ v) = woZ v z := by
                  have := wo_at z.toNat v hz64 hv6
                  rw [Int.toNat_of_nonneg hzz0] at this
                  exact this
                have HMP : Hid ((zs.take (i + 1)).map (woZ v) = (zs.take i).map (woZ v) ++ [woZ v z]) := Lib.hid (by
                  rw [List.take_succ_eq_append_getElem (by rw [← HN.out]; exact hin), List.map_append, hz, List.getElem?_eq_getElem (by rw [← HN.out]; exact hin), Option.getD_some]; rfl)
                rw [← hz] at hcz
                clear hz hzm
                have hlts : bz < wr.heap.size := by omega
                clear HIH HSAME HLEN HFR HNONE HFIRST HE
                go_wp2
                have hmx : Tryd.prog.follows .mixedOrders = true := by kernel_rfl
                go_region_law (refine step_append_lies _ rfl (.tmp 38) (.tmp 46) 23 rfl w.heap.size 3 i0 (.int .i64 0) 1 8 Tryd.underlying23 hi0 hz0 hz1 hz2 rfl (by decide) _ _ _ rfl (own_drew (World.ownsRow.alloc HO.out.1 _)) ⟨wr.heap.size, 0, none⟩ 1 1 [.int .i64 _] rfl rfl (World.news_of_block (cs := #[.int .i64 _]) (fr := (0, 0)) (t := 3) (alloc_new wr _)) (by simp [Value.oneCell']) (by decide) (by simp only [maxLen]; omega) (by omega) (Nat.le_trans hszi (Nat.le_trans (Nat.le_succ _) (Nat.le_of_eq (World.size_alloc wr _).symm))) (wr.heap.size + 1) (World.size_alloc wr _) ?_; intro g9 c9 w9 hown hg9 hgg hgs)
                all_goals
                  have hg9' : (World.drew (World.alloc wr (.cells #[.int .i64 (woZ v z)] 3))).grownBy w9 (Value.slice b i d).ownBlock := hg9
                  have HO9 : Hid (OwnN w9 w.heap.size (some ⟨g9, 0, none⟩) (i + 1) c9 ((zs.take (i + 1)).map (woZ v))) := Lib.hid (by rw [HMP.out]; exact own_more hown)
                  have HB9 : Hid (Below w.heap.size w w9) := Lib.hid ((HO.out.2.alloc hszi _).drew.grown hg9' (Nat.le_trans hszi (Nat.le_trans (Nat.le_succ _) (Nat.le_of_eq (World.size_alloc wr _).symm))) (fun g e => (World.ownsRow.lt HO.out.1 g e).1))
                  clear hg9 hg9' hgg hgs hown HO HV
                  go_wp2
                  go_roundg g2
                  case measure => omega
                  case rel => exact ⟨i + 1, _, _, by omega, by go_num, rfl, HO9.out, HB9.out⟩

end Go.Proofs.YtacglafoahmcnaaDoor

/- It is proved what EarSteps of the program returns; conditions: those of each statement. -/
namespace Go.Proofs.YtacglafoahmcnaaDoor
open Go.RowKit

theorem below_next {w1 W w4 : World} (h4 : Below W.heap.size W w4) (h : Below w1.heap.size w1 W) : Below w1.heap.size w1 w4 := h.trans (h4.mono h.size)
end Go.Proofs.YtacglafoahmcnaaDoor

/- It is proved what EarOrder of the model returns; conditions: those of each statement. -/
namespace Go.Proofs.YtacglafoahmcnaaDoor
open Go.RowKit

def ordR (m : Int) (zs : List Int) : Option (List Int) := if famIn m zs then ordN 6 zs (2 ^ m.toNat - 1) else none
theorem fullT_nat {k : Nat} : fullI (k : Int) = ((2 ^ k - 1 : Nat) : Int) := by
  have h1 : 1 ≤ 2 ^ k := Nat.one_le_two_pow
  have : ((2 ^ k - 1 : Nat) : Int) = ((2 ^ k : Nat) : Int) - 1 := by omega
  rw [this]; simp [fullI]

set_option maxRecDepth 100000 in
set_option maxHeartbeats 3200000 in
theorem specOrder_any (m : Int) (a : Option Addr) (c : Nat) (zs : List Int) (w : World) (ha : Ints w w.heap.size a zs) (hx : zs.length ≤ 1048576) :
    Calls Tryd.prog 22 #[.agg #[.int .i64 m, .slice a zs.length c]] w (RetSB w ((ordR m zs).getD []) (ordR m zs).isSome) := by
  unfold ordR
  have HB0 := Lib.hid (below1 w (.cells #[.int .i64 m, .slice a zs.length c] 25))
  have HA := Lib.hid (ha.below HB0.out)
  clear ha
  cases hf : famIn m zs
  · have HF := Lib.hid hf
    clear hf
    go_enter Tryd.func22, Tryd.ntmps22
    go_wp2_with fail
    refine (specFamilyIn_any _ _ _ zs _ (HA.out.mono (by simp)) hx).mono ?_
    rintro e w1 ⟨rfl, hb⟩
    rw [HF.out]
    have HB := Lib.hid (HB0.out.trans (hb.mono (by simp)))
    have hsz := HB.out.size
    clear hb
    go_wp2
    go_ret2
    exact ⟨some ⟨w1.heap.size, 0, none⟩, 0, rfl, own_empty (alloc_new w1 _) hsz, HB.out.alloc hsz _⟩
  · have HF := Lib.hid hf
    obtain ⟨k, rfl, hk1, hk6, hset, hl8⟩ := fam_nat2 hf
    rw [if_pos rfl, Int.toNat_natCast]
    have h64 : 2 ^ k - 1 < 64 := by
      have h1 : 2 ^ k ≤ 2 ^ 6 := Nat.pow_le_pow_right (n := 2) (by decide) hk6
      have h2 : (2 : Nat) ^ 6 = 64 := by decide
      have := Nat.two_pow_pos k
      omega
    have HOR : Hid (∀ W, Ints W W.heap.size a zs → Calls Tryd.prog 61 #[.slice a zs.length c, .int .i64 (fullI (k : Int))] W (RetSB W ((ordN 6 zs (2 ^ k - 1)).getD []) (ordN 6 zs (2 ^ k - 1)).isSome)) := Lib.hid fun W h => by
      rw [fullT_nat]
      exact l6eOrder_any k hk6 6 a c zs (2 ^ k - 1) W h hl8 hset h64 (memK_len 6 _)
    obtain ⟨R, hR⟩ : ∃ R, R = ordN 6 zs (2 ^ k - 1) := ⟨_, rfl⟩
    rw [← hR] at HOR ⊢
    have hm1 : 1 ≤ (k : Int) := by omega
    have hm6 : (k : Int) ≤ 6 := by omega
    clear hf hset hR h64
    go_enter Tryd.func22, Tryd.ntmps22
    go_wp2_with fail
    refine (specFamilyIn_any _ _ _ zs _ (HA.out.mono (by simp)) hx).mono ?_
    rintro e w1 ⟨rfl, hb⟩
    rw [HF.out]
    have b0 : w1.heap[w.heap.size]? = some (.cells #[.int .i64 (k : Int), .slice a zs.length c] 25 (0, 0)) := (hb.block _ (by simp)).trans (alloc_new w _)
    have x0 := (blk_cell b0 0).trans (cell2_0 _ _)
    have x1 := (blk_cell b0 1).trans (cell2_1 _ _)
    have hz1 : w.heap.size < w1.heap.size := lt_of_some b0
    have HB := Lib.hid (HB0.out.trans (hb.mono (by simp)))
    have HI1 := Lib.hid ((HA.out.below (hb.mono (by simp))).mono (show w.heap.size ≤ w1.heap.size by omega))
    have HKEEP : Hid (∀ W, Below w1.heap.size w1 W → W.cell? ⟨w.heap.size, 0, none⟩ = some (.int .i64 (k : Int)) ∧ W.cell? ⟨w.heap.size, 1, none⟩ = some (.slice a zs.length c)) :=
      Lib.hid fun W hW => ⟨(hW.cell (p := ⟨w.heap.size, 0, none⟩) hz1).trans x0, (hW.cell (p := ⟨w.heap.size, 1, none⟩) hz1).trans x1⟩
    clear hb b0
    go_wp2_with fail
    have hbz : Below w1.heap.size w1 w1.drew := (Below.refl _ _).drew
    go_region_held3 (fun w' => w'.cell? ⟨w.heap.size, 0, none⟩ = some (.int .i64 (k : Int)) ∧ w'.cell? ⟨w.heap.size, 1, none⟩ = some (.slice a zs.length c))
      (first | exact ⟨x0, x1⟩ | exact HKEEP.out _ (by assumption))
      (first
        | (go_at_call 62; refine (l1All_b _ _ _ _ _ hm1 hm6).mono ?_; rintro e w2 ⟨rfl, hb2⟩; have hbx := below_next hb2 (by assumption : Below w1.heap.size w1 _))
        | (go_at_call 61; refine (HOR.out _ (HI1.out.step (by assumption))).mono ?_; rintro e w5 ⟨a5, c5, rfl, ho5, hb5⟩; have hby := below_next hb5 (by assumption : Below w1.heap.size w1 _); have HO5 := Lib.hid ho5; have hbase : w1.heap.size ≤ w2.heap.size := by have := hbx.size; exact this))
    all_goals
      have HR := Lib.hid (HB.out.trans (hby.mono HB.out.size))
      have HO := Lib.hid (own_mono HO5.out (B' := w.heap.size) (by have := HB.out.size; omega))
      go_wp2
      go_ret2
      exact ⟨a5, c5, by simp, HO.out, HR.out⟩

end Go.Proofs.YtacglafoahmcnaaDoor

/- It is proved what slices.Index, slices.Contains and slices.Max of ints return; conditions: those of each statement. -/
namespace Go.Proofs.YtacglafoahmcnaaDoor
open Go.RowKit

/-- Where a number first stands in a list, or -1. -/
def IdxR (x : Int) (zs : List Int) (r : Int) : Prop := (r = -1 ∧ ∀ j, j < zs.length → zs[j]?.getD 0 ≠ x) ∨ ∃ k : Nat, r = (k : Int) ∧ k < zs.length ∧ zs[k]?.getD 0 = x ∧ ∀ j, j < k → zs[j]?.getD 0 ≠ x

set_option maxRecDepth 100000 in
set_option maxHeartbeats 1600000 in
theorem indexI_any (a : Option Addr) (c : Nat) (zs : List Int) (x : Int) (w : World) (ha : Ints w w.heap.size a zs) (hx : zs.length ≤ 1048576) :
    Calls Tryd.prog 143 #[.slice a zs.length c, .int .i64 x] w fun e w' => (∃ r, e = .returned (.int .i64 r) ∧ IdxR x zs r) ∧ w = w' := by
  obtain ⟨n, hn⟩ : ∃ n, n = zs.length := ⟨_, rfl⟩
  have HN := Lib.hid hn
  have HA := Lib.hid ha
  rw [← hn] at hx ⊢
  clear ha hn
  go_enter Tryd.func143, Tryd.ntmps143
  go_wp2
  go_loop [5, 8] (fun _ i => ∃ k : Nat, k ≤ n ∧ i = .int .i64 k ∧ ∀ j, j < k → zs[j]?.getD 0 ≠ x) (fun _ i => n - (intOf i).toNat)
  case atStart => exact ⟨0, Nat.zero_le _, rfl, fun j hj => by omega⟩
  case round =>
    obtain ⟨k, hk, rfl, he⟩ := hrel
    have HE := Lib.hid he
    clear he
    by_cases hlt : k < n
    · obtain ⟨b1, o1, rfl, hb1, hc1⟩ := HA.out.at_ (k := k) (by rw [← HN.out]; exact hlt)
      obtain ⟨z, hz⟩ : ∃ z, z = zs[k]?.getD 0 := ⟨_, rfl⟩
      rw [← hz] at hc1
      have HZ := Lib.hid hz
      have hki : (k : Int) < (n : Int) := by omega
      clear hz
      cases h0 : (x == z)
      · have HP : Hid (∀ j, j < k + 1 → zs[j]?.getD 0 ≠ x) := Lib.hid (fun j hj e => by
          by_cases e2 : j = k
          · subst e2; rw [← HZ.out] at e; rw [e] at h0; simp at h0
          · exact HE.out j (by omega) e)
        go_wp2
        go_round
        case rel => exact ⟨k + 1, by omega, by go_num, HP.out⟩
        case measure => simp [intOf]; omega
      · have HX : Hid (x = z) := Lib.hid (by simpa using h0)
        go_wp2
        go_ret
        exact ⟨⟨_, rfl, .inr ⟨k, rfl, by rw [← HN.out]; exact hlt, by rw [HX.out, ← HZ.out], HE.out⟩⟩, rfl⟩
    · obtain rfl : k = n := by omega
      go_wp2
      go_ret
      exact ⟨⟨_, rfl, .inl ⟨rfl, by rw [← HN.out]; exact HE.out⟩⟩, rfl⟩

end Go.Proofs.YtacglafoahmcnaaDoor

/- It is proved what has, namesIn, l1Names and l1Called return; conditions: those of each statement. -/
namespace Go.Proofs.YtacglafoahmcnaaDoor
open Go.RowKit

set_option maxRecDepth 100000 in
theorem has_fin : ∀ x : Fin 64, ∀ p : Fin 6, (bits BinOp.and IntKind.i64 ((x.val : Int) / 2 ^ p.val) 1 == 1) = x.val.testBit p.val := by decide +kernel

theorem has_any (x p : Nat) (hx : x < 64) (hp : p < 6) (w : World) :
    Calls Tryd.prog 108 #[.int .i64 (x : Int), .int .i64 (p : Int)] w fun e w' => e = .returned (.bool (x.testBit p)) ∧ w = w' := by
  have HH := Lib.hid (has_fin ⟨x, hx⟩ ⟨p, hp⟩)
  simp only at HH
  go_enter Tryd.func108, Tryd.ntmps108
  go_wp2
  go_ret
  exact ⟨by rw [← HH.out]; rfl, rfl⟩

set_option maxRecDepth 100000 in
theorem mem_range : ∀ m, m ≤ 6 → ∀ s, s < 2 ^ m → mem s = (List.range m).filter fun i => s.testBit i := by decide +kernel

end Go.Proofs.YtacglafoahmcnaaDoor
