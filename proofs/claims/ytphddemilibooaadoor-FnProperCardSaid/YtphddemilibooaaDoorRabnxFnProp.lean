/- It is proved what the iterator over the proper colours of a family yields; conditions: those of each statement. -/
import Derived.RowKit
import Derived.Laws.CopyRow
import Derived.Lib.SlBuf
import Derived.Deep.QuietTactic
import Derived.RangeFuncNested
import Derived.RangeFuncBound
import Derived.RangeFuncCalls
import Derived.RangeFuncLeaves
import Derived.RangeFuncBox
import Derived.RangeFuncWrites
import Derived.StillTailTactics
import Derived.Maps.OwnIn
import Derived.Maps.Ext
import Derived.DeepKeys4
import Derived.MapKept
import Derived.Test.YtphddemilibooaaDoorRows
import Derived.WalkKit
import Derived.WalkSpells
import Derived.ProofKit
import Derived.OpenShut
import Derived.ShutString
import Derived.ChangeOld
import Derived.Below
import Derived.Deep.RegionHeld3
import Derived.BigQuiet
import Derived.Lib.Hide
import Derived.Lib.SmallJoins
import Derived.Outline
import Derived.Laws.MakeOwn
import Derived.Laws.OwnMore
import Derived.IntWalk
import Derived.Maps.AppendAt
import Derived.Deep.RegionLaw
import Derived.Deep.AppendLies
import Derived.Lib.AppendZeros
import Derived.OwnWalk
import Derived.Lib.SlicesCompact
import Derived.Lib.OwnBridge
import Derived.OrdersIn
import Derived.TacticsIn
import Derived.Shelf.Sort.Plain
import Derived.Shelf.Slices.In.SortNone
import Derived.Shelf.Slices.CompactI
import Derived.Ground.Names2Prog
import Derived.Lib.SliceRun
import Derived.Shelf.Abstract
import Derived.Shelf.RegionOpen
import Derived.OwnWalkIn
import Derived.TacticsInMore
import Derived.LoopNIn
import Derived.LoopIn
import Derived.StillTail
import Derived.StillTactics
import Derived.Shelf.Spec.TrailingZeros
import Derived.Deep.LoopGhost
import Derived.Test.YtphddemilibooaaDoorRabjxFnProp
import Derived.Test.YtphddemilibooaaDoorRaal
import Derived.Test.YtphddemilibooaaDoorRaas
import Derived.Test.YtphddemilibooaaDoorRabixFnProp
import Derived.Test.YtphddemilibooaaDoorRaaa
import Derived.Test.YtphddemilibooaaDoorRaab
import Derived.Test.YtphddemilibooaaDoorRaad
import Derived.Test.YtphddemilibooaaDoorRabkxFnProp
import Derived.Test.YtphddemilibooaaDoorRabhxFnProp
import Derived.Test.YtphddemilibooaaDoorRablxFnProp
import Derived.Test.YtphddemilibooaaDoorRabmxFnProp
import Derived.Test.YtphddemilibooaaDoorKc
import Derived.Test.YtphddemilibooaaDoorRaav
import Derived.Test.YtphddemilibooaaDoorRaaj
import Derived.Test.YtphddemilibooaaDoorRaac
import Derived.Test.YtphddemilibooaaDoorRaaz
import Derived.Test.YtphddemilibooaaDoorRaay
namespace Go.Proofs.YtphddemilibooaaDoor
open Go.RowKit Go.Shelf

attribute [local go_sem] Oper.semAt_some

/-- Those of some colours that are right. -/
def filtP (zs : List Int) (xs : List (Value × List Int)) : List (Value × List Int) := xs.filter fun x => proB zs x.2

theorem filtP_snoc (zs : List Int) (xs : List (Value × List Int)) (x : Value × List Int) : filtP zs (xs ++ [x]) = filtP zs xs ++ if proB zs x.2 then [x] else [] := by
  rw [filtP, List.filter_append]
  cases h : proB zs x.2 <;> simp [filtP, h]

theorem filtP_map (zs : List Int) (xs : List (Value × List Int)) : (filtP zs xs).map (·.2) = (xs.map (·.2)).filter (proB zs) := by
  unfold filtP
  rw [List.filter_map]
  rfl

theorem filtP_len (zs : List Int) (xs : List (Value × List Int)) : (filtP zs xs).length ≤ xs.length := List.length_filter_le _ _
set_option maxRecDepth 100000 in
set_option maxHeartbeats 8000000 in
theorem coloured1P_in (n lo Bf Bk Bx m k : Nat) (hm1 : 1 ≤ m) (hm : m ≤ 6) (hk : k ≤ 6) (a : Option Addr) (c : Nat) (zs : List Int) (hx8 : zs.length ≤ 1048576) (hz : Sets m zs) (X : Nat → Prop) (w : World) (hlo : lo ≤ w.heap.size) (hXlo : ∀ j, X j → lo ≤ j) (hXf : ¬ X Bf) (hXk : ¬ X Bk) (hXx : ¬ X Bx)
    (bf : HasBlk w Bf #[.int .i64 (m : Int), .slice a zs.length c] 25) (bk : Boxed w Bk 3 (.int .i64 (k : Int))) (bx : Boxed w Bx 66 (.func (.func 49) #[] #[])) (hI : Ints w lo a zs) (hT : Tab w) (hT2 : 2 ≤ lo) :
    SeqBut n Tryd.prog 68 #[.pointer (some ⟨Bf, 0, none⟩), .pointer (some ⟨Bk, 0, none⟩), .pointer (some ⟨Bx, 0, none⟩)] (fun x : Value × List Int => #[x.1]) X (OkV m) (fun xs => xs.map (·.2) = (wordsL (palI k) m).filter (proB zs)) (fun pre => pre.map (·.2) <+: (wordsL (palI k) m).filter (proB zs) ∧ pre ≠ []) (k ^ m) w := by
  intro l J Jx W hW hl1 hl2 hX hJ hJx hY h0
  refine callsIn_wide.2 ((callsIn_wide (n := 6)).1 ?_)
  have hsW : w.heap.size ≤ W.heap.size := hW.size
  have h16 : 1 ≤ 6 := by omega
  have hmx : Tryd.prog.follows .mixedOrders = true := by kernel_rfl
  have bfW : HasBlk W Bf #[.int .i64 (m : Int), .slice a zs.length c] 25 := (hW.block _ (lt_of_some bf)).trans bf
  have bkW : Boxed W Bk 3 (.int .i64 (k : Int)) := (hW.block _ (lt_of_some bk)).trans bk
  have bxW : Boxed W Bx 66 (.func (.func 49) #[] #[]) := (hW.block _ (lt_of_some bx)).trans bx
  have hIW : Ints W lo a zs := hI.below (hW.mono hlo)
  have hTW : Tab W := hT.below hW hT.lt
  obtain ⟨W1, hW1, q0, hs1, hb1⟩ : ∃ W1, W.alloc (.cells #[.func (.yield l) #[] #[]] 80) = W1 ∧ HasBlk W1 W.heap.size #[.func (.yield l) #[] #[]] 80 ∧ W1.heap.size = W.heap.size + 1 ∧ Below W.heap.size W W1 := ⟨_, rfl, alloc_new W _, by simp, below1 W _⟩
  have bf1 := (hb1.block _ (lt_of_some bfW)).trans bfW
  have x0 := (blk_cell (show HasBlk W1 Bf #[.int .i64 (m : Int), .slice a zs.length c] 25 from bf1) 0).trans (cell2_0 _ _)
  have xk : W1.cell? ⟨Bk, 0, none⟩ = some (.int .i64 (k : Int)) := (hb1.cell (p := ⟨Bk, 0, none⟩) (lt_of_some bkW)).trans bkW.cell
  have hJ1 : J [] W1 := by rw [← hW1]; exact hJ.alloc _ h0
  have HBf : Hid (Bf < w.heap.size ∧ Bk < w.heap.size ∧ Bx < w.heap.size) := Lib.hid ⟨lt_of_some bf, lt_of_some bk, lt_of_some bx⟩
  have HQ0 := Lib.hid q0
  have HF1 := Lib.hid bfW
  have HK1 := Lib.hid bkW
  have HX1 := Lib.hid bxW
  have HI1 := Lib.hid hIW
  have HT1 := Lib.hid hTW
  have HB1 := Lib.hid hb1
  have HS1 := Lib.hid hs1
  have HJ1 := Lib.hid hJ1
  have HY := Lib.hid hY
  have HZ := Lib.hid hz
  have HXX := Lib.hid hX
  have HNB := Lib.hid (numbered_any k (by omega) W1.drew)
  clear bfW bkW bxW hIW hTW q0 hb1 hs1 hJ1 hY h0 bf1 bf bk bx hI hW hz hT hX
  refine callsIn_of_wp_marks Tryd.func68 rfl trivial ?_ rfl
  simp only [Tryd.ntmps68, List.size_toArray, List.length_cons, List.length_nil, Nat.reduceAdd, Nat.reduceSub, Array.replicate_succ, Array.replicate_zero, List.push_toArray, List.append_toArray, List.nil_append, List.cons_append]
  gi_wp2
  have HNB' : Hid (∀ W', (Nums W' W1.heap.size 3 (palI k) ∧ Below W1.heap.size W1 W' ∧ W'.heap.size = W1.heap.size + 1) → W'.cell? ⟨Bf, 0, none⟩ = some (.int .i64 (m : Int))) := Lib.hid fun W' h => (h.2.1.cell (p := ⟨Bf, 0, none⟩) (show Bf < W1.heap.size by have := HBf.out; have := HS1.out; omega)).trans x0
  have HDR : Hid (∀ W', Below W1.heap.size W1.drew W' → Below W1.heap.size W1 W') := Lib.hid fun W' h => (Below.refl _ W1).drew.trans h
  refine wpIn_region_held (A := fun ls => { tmps := #[.func (.yield l) #[] #[], .pointer (some ⟨Bf, 0, none⟩), .pointer (some ⟨Bk, 0, none⟩), .pointer (some ⟨Bx, 0, none⟩), .pointer (some ⟨W.heap.size, 0, none⟩), undef, undef, (bif ls.getD 0 false then .pointer (some ⟨Bf, 0, none⟩) else undef), (bif ls.getD 1 false then .int .i64 (m : Int) else undef), (bif ls.getD 2 false then .int .i64 (k : Int) else undef), (bif ls.getD 3 false then .slice (some ⟨W1.heap.size, 0, none⟩) k k else undef), (bif ls.getD 4 false then .func (.func 83) #[] #[.pointer (some ⟨W1.heap.size + 1, 0, none⟩), .pointer (some ⟨W1.heap.size + 1 + 1, 0, none⟩)] else undef), undef, undef, undef, undef, undef, undef, undef, undef, undef, undef, undef, undef, undef], defers := [] })
    (S := fun ls W' => (ls.getD 1 false = true → ls.getD 0 false = true) ∧ (ls.getD 3 false = true → ls.getD 2 false = true) ∧ (ls.getD 4 false = true → ls.getD 1 false = true ∧ ls.getD 3 false = true) ∧ (ls.getD 3 false = false → W' = W1.drew) ∧ (ls.getD 3 false = true → ls.getD 4 false = false → Hid (Nums W' W1.heap.size 3 (palI k) ∧ Below W1.heap.size W1 W' ∧ W'.heap.size = W1.heap.size + 1)) ∧
      (ls.getD 4 false = true → ∃ w2, Hid (Nums w2 W1.heap.size 3 (palI k) ∧ Below W1.heap.size W1 w2 ∧ w2.heap.size = W1.heap.size + 1) ∧ Hid (W' = (w2.alloc (.cells #[.int .i64 (m : Int)] 3)).alloc (.cells #[.slice (some ⟨W1.heap.size, 0, none⟩) k k] 23)))) hmx (by kernel_rfl) rfl ⟨by simp, by simp, by simp, by simp, by simp, by simp⟩ ?step ?fin
  case step =>
    intro listed W' i hsz hi hS
    obtain ⟨l0, l1, l2, l3, l4, rfl⟩ := arr5 listed hsz
    obtain ⟨hi1, hi2⟩ := List.mem_filter.1 hi
    have hi5 : i < 5 := by simpa using hi1
    obtain ⟨s1, s2, s3, s4, s5, s6⟩ := hS
    change l1 = true → l0 = true at s1
    change l3 = true → l2 = true at s2
    change l4 = true → l1 = true ∧ l3 = true at s3
    change l3 = false → W' = W1.drew at s4
    change l3 = true → l4 = false → Hid (Nums W' W1.heap.size 3 (palI k) ∧ Below W1.heap.size W1 W' ∧ W'.heap.size = W1.heap.size + 1) at s5
    change l4 = true → ∃ w2, Hid (Nums w2 W1.heap.size 3 (palI k) ∧ Below W1.heap.size W1 w2 ∧ w2.heap.size = W1.heap.size + 1) ∧ Hid (W' = (w2.alloc (.cells #[.int .i64 (m : Int)] 3)).alloc (.cells #[.slice (some ⟨W1.heap.size, 0, none⟩) k k] 23)) at s6
    have hcase : i = 0 ∨ i = 1 ∨ i = 2 ∨ i = 3 ∨ i = 4 := by omega
    rcases hcase with rfl | rfl | rfl | rfl | rfl
    · have g0 : l0 = false := by simp [Region.binds] at hi2; simp_all
      have g1 : l1 = false := by cases h : l1 <;> first | rfl | (have h2 := s1 h; simp_all)
      have g4 : l4 = false := by cases h : l4 <;> first | rfl | (have h2 := s3 h; simp_all)
      subst g0; subst g1; subst g4
      have T4 := Lib.hid s4
      have T5 := Lib.hid s5
      have T2 := Lib.hid s2
      clear s1 s2 s3 s4 s5 s6
      refine wpOpIn_of_list rfl ?_
      gi_wp2
      exact ⟨rfl, T2.out, T4.out, fun h => T5.out h trivial⟩
    · have g0 : l0 = true := by simp [Region.binds] at hi2; simp_all
      have g1 : l1 = false := by simp [Region.binds] at hi2; simp_all
      have g4 : l4 = false := by cases h : l4 <;> first | rfl | (have h2 := s3 h; simp_all)
      subst g0; subst g1; subst g4
      cases l3
      · have h4 := s4 rfl
        subst h4
        clear s1 s2 s3 s4 s5 s6
        refine wpOpIn_of_list rfl ?_
        gi_wp2
        exact ⟨rfl, by simp, by simp, by simp, by simp, by simp, by simp⟩
      · have h5 := s5 rfl rfl
        have g2 := s2 rfl
        subst g2
        have x0' := HNB'.out W' h5.out
        clear s1 s2 s3 s4 s5 s6
        refine wpOpIn_of_list rfl ?_
        gi_wp2
        exact ⟨rfl, by simp, by simp, by simp, by simp, fun _ _ => h5, by simp⟩
    · have g2 : l2 = false := by simp [Region.binds] at hi2; simp_all
      have g3 : l3 = false := by cases h : l3 <;> first | rfl | (have h2 := s2 h; simp_all)
      have g4 : l4 = false := by cases h : l4 <;> first | rfl | (have h2 := s3 h; simp_all)
      subst g2; subst g3; subst g4
      have h4 := s4 rfl
      subst h4
      have T1 := Lib.hid s1
      clear s1 s2 s3 s4 s5 s6
      refine wpOpIn_of_list rfl ?_
      gi_wp2
      exact ⟨rfl, T1.out, by simp, by simp, by simp, by simp, by simp⟩
    · have g2 : l2 = true := by simp [Region.binds] at hi2; simp_all
      have g3 : l3 = false := by simp [Region.binds] at hi2; simp_all
      have g4 : l4 = false := by cases h : l4 <;> first | rfl | (have h2 := s3 h; simp_all)
      subst g2; subst g3; subst g4
      have h4 := s4 rfl
      subst h4
      have T1 := Lib.hid s1
      clear s1 s2 s3 s4 s5 s6
      refine wpOpIn_of_list rfl ?_
      gi_wp2_with fail
      refine ⟨trivial, ?_⟩
      refine (callsIn_wide.2 HNB.out).mono ?_
      rintro e w2 ⟨rfl, hnb, hbb, hsz2⟩
      have H2 : Hid (Nums w2 W1.heap.size 3 (palI k) ∧ Below W1.heap.size W1 w2 ∧ w2.heap.size = W1.heap.size + 1) := Lib.hid ⟨hnb, HDR.out w2 hbb, hsz2⟩
      clear hnb hbb hsz2
      gi_wp2
      exact ⟨rfl, T1.out, by simp, by simp, by simp, fun _ _ => H2, by simp⟩
    · have g1 : l1 = true := by simp [Region.binds] at hi2; simp_all
      have g3 : l3 = true := by simp [Region.binds] at hi2; simp_all
      have g4 : l4 = false := by simp [Region.binds] at hi2; simp_all
      have g0 := s1 g1
      have g2 := s2 g3
      subst g0; subst g1; subst g2; subst g3; subst g4
      have h5 := s5 rfl rfl
      have hsz5 := h5.out.2.2
      clear s1 s2 s3 s4 s5 s6
      refine wpOpIn_of_list rfl ?_
      gi_wp2_with fail
      refine ⟨trivial, ?_⟩
      refine (callsIn_wide.2 (allColours_any _ _ _ _ _)).mono ?_
      rintro e w3 ⟨rfl, hw3⟩
      rw [hsz5]
      have H3 := Lib.hid hw3
      clear hw3 hsz5
      gi_wp2
      exact ⟨rfl, by simp, by simp, by simp, by simp, by simp, fun _ => ⟨_, h5, H3⟩⟩
  case fin =>
    intro listed W'' hsz hall hS
    obtain ⟨l0, l1, l2, l3, l4, rfl⟩ := arr5 listed hsz
    simp at hall
    obtain ⟨rfl, rfl, rfl, rfl, rfl⟩ := hall
    obtain ⟨-, -, -, -, -, s6⟩ := hS
    obtain ⟨w2, h2, h3⟩ := s6 rfl
    clear s6
    obtain ⟨hn2, hb2, hs2⟩ := h2.out
    have hwc := h3.out
    have hsc : W''.heap.size = W1.heap.size + 1 + 1 + 1 := by rw [hwc]; simp [hs2]
    have hbc : Below W1.heap.size W1 W'' := by rw [hwc]; exact hb2.trans ((below2 w2 _ _).mono (by omega))
    have cm : Boxed W'' (W1.heap.size + 1) 3 (.int .i64 (m : Int)) := by
      rw [hwc]
      have := alloc2_0 w2 (.cells #[.int .i64 (m : Int)] 3) (.cells #[.slice (some ⟨W1.heap.size, 0, none⟩) k k] 23)
      rw [hs2] at this
      exact this
    have cq : Boxed W'' (W1.heap.size + 1 + 1) 23 (.slice (some ⟨W1.heap.size, 0, none⟩) (palI k).length k) := by
      rw [hwc, palI_len]
      have := alloc2_1 w2 (.cells #[.int .i64 (m : Int)] 3) (.cells #[.slice (some ⟨W1.heap.size, 0, none⟩) k k] 23)
      rw [hs2] at this
      exact this
    have cp : ∀ j, j < (palI k).length → W''.cell? ⟨W1.heap.size, j, none⟩ = some (.int .i64 ((palI k)[j]?.getD 0)) := fun j hj => by
      rw [hwc]
      exact ((hn2.alloc _).alloc _).cell j hj
    have hold : ∀ j, j < w.heap.size → ¬ X j → ¬ (j = l ∨ X j) := fun j hj hx h => by
      rcases h with h | h
      · omega
      · exact hx h
    have hnew : ∀ j, W.heap.size ≤ j → ¬ (j = l ∨ X j) := fun j hj h => by
      rcases h with h | h
      · omega
      · have := HXX.out j h
        omega
    have HOLD := Lib.hid hold
    have HNEW := Lib.hid hnew
    have hX' : ∀ j, (j = l ∨ X j) → j < W''.heap.size := fun j h => by
      have := HS1.out
      rcases h with h | h
      · omega
      · have := HXX.out j h
        omega
    have hseq := allCol1_in (6 - 1) (W1.heap.size + 1) (W1.heap.size + 1 + 1) W1.heap.size k m hm (palI k) (by rw [palI_len]; exact hk) (fun j => j = l ∨ X j) W'' (by omega) (by omega) (by omega)
      (hnew _ (by have := HS1.out; omega))
      (hnew _ (by have := HS1.out; omega))
      (hnew _ (by have := HS1.out; omega)) cm cq cp
    have hbW : Below W.heap.size W W'' := HB1.out.trans (hbc.mono (by have := HS1.out; omega))
    have HSEQ := Lib.hid hseq
    have HX' := Lib.hid hX'
    have HBW := Lib.hid hbW
    have HSC := Lib.hid hsc
    have H0 : Hid (J (filtP zs []) W'' ∧ HasBlk W'' W.heap.size #[.func (.yield l) #[] #[]] 80 ∧ But (fun j => j = l ∨ X j) W'' W'') := Lib.hid ⟨hJ.step hbc HJ1.out, (hbc.block _ (by have := HS1.out; omega)).trans HQ0.out, But.refl _ _⟩
    have HIc : Hid (Ints W'' lo a zs) := Lib.hid (HI1.out.below (hbW.mono (by omega)))
    have HTc : Hid (Tab W'') := Lib.hid (HT1.out.below hbW HT1.out.lt)
    have HFc : Hid (HasBlk W'' Bf #[.int .i64 (m : Int), .slice a zs.length c] 25) := Lib.hid ((hbW.block _ (lt_of_some HF1.out)).trans HF1.out)
    have HXc : Hid (Boxed W'' Bx 66 (.func (.func 49) #[] #[])) := Lib.hid ((hbW.block _ HX1.out.lt).trans HX1.out)
    clear hold hnew hn2 hb2 hs2 hwc hsc hbc cm cq cp hseq hbW hX' h2 h3 hsz
    gi_wp2
    refine wpIn_rangeFunc_but (n := 6) h16 (gf := 83) (lb := #[.pointer (some ⟨W1.heap.size + 1, 0, none⟩), .pointer (some ⟨W1.heap.size + 1 + 1, 0, none⟩)]) rfl (enters_of Tryd.func83 (by kernel_rfl) rfl)
      HSEQ.out (Below.refl _ _) HX'.out (fun _ => rfl)
      (fun x A l' o h hl => ⟨h.1, by obtain ⟨a', e, hi⟩ := h.2; exact ⟨a', e, by have := ints_putObj (o := o) hi hl; simpa using this⟩⟩)
      (fun pre Wr => J (filtP zs pre) Wr ∧ HasBlk Wr W.heap.size #[.func (.yield l) #[] #[]] 80 ∧ But (fun j => j = l ∨ X j) W'' Wr)
      (fun pre Wr => Jx (filtP zs pre) Wr ∧ filtP zs pre ≠ [])
      ?own ?ownx H0.out
      (fun x a' Wr => ∃ Bl, W''.heap.size ≤ Bl ∧ Boxed Wr Bl 67 x.1 ∧ a' = { tmps := #[.func (.yield l) #[] #[], .pointer (some ⟨Bf, 0, none⟩), .pointer (some ⟨Bk, 0, none⟩), .pointer (some ⟨Bx, 0, none⟩), .pointer (some ⟨W.heap.size, 0, none⟩), .pointer (some ⟨Bl, 0, none⟩), undef, .pointer (some ⟨Bf, 0, none⟩), .int .i64 (m : Int), .int .i64 (k : Int), .slice (some ⟨W1.heap.size, 0, none⟩) k k, .func (.func 83) #[] #[.pointer (some ⟨W1.heap.size + 1, 0, none⟩), .pointer (some ⟨W1.heap.size + 1 + 1, 0, none⟩)], x.1, undef, undef, undef, undef, undef, undef, undef, undef, undef, undef, undef, undef], defers := [] })
      ?ownA ?assign ?body ?done ?stop
    case own =>
      rintro s A C row ⟨hj, hy, hb⟩ hg hr
      have hsz := HSC.out
      have hs1 := HS1.out
      refine ⟨hJ _ A C row hj hg (fun r e => by have := hr r e; omega), hy.kept hg (fun e => by have := hr _ e; omega), ?_⟩
      exact ⟨hg.os.trans hb.os, hg.tape.trans hb.tape, hg.output.trans hb.output, Nat.le_trans hb.size hg.size, fun i hi hX => (hg.block i (Nat.lt_of_lt_of_le hi hb.size) (fun e => by have := hr i e.symm; omega)).trans (hb.same i hi hX)⟩
    case ownx =>
      rintro s A C row ⟨hj, hn⟩ hg hr
      have hsz := HSC.out
      have hs1 := HS1.out
      exact ⟨hJx _ A C row hj hg (fun r e => ⟨by have := (hr r e).1; omega, (hr r e).2⟩), hn⟩
    case ownA =>
      rintro x a' A l' o ⟨Bl, h1, h2, h3⟩ ⟨o', ho', hc'⟩
      refine ⟨Bl, h1, ?_, h3⟩
      refine h2.kept (grownBy_putObj' A l' o) (fun e => ?_)
      injection e with e
      subst e
      rw [show A.heap[Bl]? = _ from h2] at ho'
      cases ho'; cases hc'
    case assign =>
      rintro l1 pre ⟨x1, x2⟩ Wr K ⟨hj, hy, hb⟩ ⟨hlen, a', ha', hints⟩ hsz hK
      dsimp only at ha' hlen hints
      subst ha'
      gi_wp2
      exact hK _ _ (But.alloc _ _) ⟨hJ.alloc _ hj, hy.alloc _, hb.trans (But.alloc _ _)⟩ ⟨hlen, _, rfl, (hints.below (below1 Wr _)).mono (by simp)⟩ ⟨Wr.heap.size, hsz, Boxed.new Wr 67 _, rfl⟩
    case body =>
      rintro l1 pre ⟨x1, x2⟩ a2 Wr hl1' ⟨hj, hy, hb⟩ hok ⟨Bl, hBl, bl, rfl⟩ hlt
      have HOK := Lib.hid hok
      obtain ⟨hlen, a', ha', hints⟩ := hok
      dsimp only at ha' hlen hints bl
      subst ha'
      have hlo' : ∀ j, (j = l ∨ X j) → lo ≤ j := fun j h => by
        rcases h with h | h
        · omega
        · exact hXlo j h
      have hblo := hb.below (B := lo) (by have := HSC.out; have := HS1.out; omega) hlo'
      have hIr : Ints Wr Wr.heap.size a zs := (HIc.out.below hblo).mono (by have := hb.size; have := HSC.out; have := HS1.out; omega)
      have hTr : Tab Wr := HTc.out.below hblo (by omega)
      have hfr : HasBlk Wr Bf #[.int .i64 (m : Int), .slice a zs.length c] 25 := hb.keep (HOLD.out _ HBf.out.1 hXf) HFc.out
      have hxr : Boxed Wr Bx 66 (.func (.func 49) #[] #[]) := hb.keep (HOLD.out _ HBf.out.2.2 hXx) HXc.out
      have HCON := Lib.hid (containsP_any a c zs a' m x2 hlen hm HZ.out hx8 Bx Bl Wr hIr hxr bl hints hTr)
      have f1 := (blk_cell hfr 1).trans (cell2_1 _ _)
      obtain ⟨xx, hxx⟩ : ∃ xx : Value × List Int, xx = (.slice a' m m, x2) := ⟨_, rfl⟩
      have HLN : Hid ((filtP zs pre).length < k ^ m) := Lib.hid (by
        rw [palI_len] at hlt
        exact Nat.lt_of_le_of_lt (filtP_len _ _) hlt)
      have HBL := Lib.hid bl
      have HJr := Lib.hid hj
      have HYr := Lib.hid hy
      have HBr := Lib.hid hb
      have HXX2 := Lib.hid hxx
      have HOKx : Hid (OkV m xx Wr) := Lib.hid (by rw [hxx]; exact HOK.out)
      have HWS : Hid (W.heap.size < Wr.heap.size) := Lib.hid (lt_of_some hy)
      clear HOK
      dsimp only
      rw [← hxx]
      have hbb : zs.all (propZ x2) = proB zs x2 := rfl
      rw [hbb] at HCON
      clear hj hy hb hlen hints bl hblo hIr hTr hfr hxr hlt hbb
      cases hcv : proB zs x2
      · have HCV := Lib.hid hcv
        have HSN : Hid (filtP zs (pre ++ [xx]) = filtP zs pre) := Lib.hid (by rw [filtP_snoc, hxx]; simp [hcv])
        clear hcv hxx
        gi_wp2_with fail
        refine ⟨trivial, ?_⟩
        refine (CallsIn.inRound l1 (callsIn_wide.2 HCON.out)).mono ?_
        rintro e w4 ⟨rfl, hb4⟩
        rw [HCV.out]
        have HB4 := Lib.hid hb4
        clear hb4
        gi_wp2
        try (refine ⟨(fun _ h => by cases h), ?_⟩; gi_wp2)
        have hbt : But (fun j => j = l ∨ X j) Wr w4 := But.of_below HB4.out
        exact ⟨hbt, by rw [HSN.out]; exact hJ.step HB4.out HJr.out, (HB4.out.block _ (lt_of_some HYr.out)).trans HYr.out, HBr.out.trans hbt⟩
      · have HCV := Lib.hid hcv
        have HSN : Hid (filtP zs (pre ++ [xx]) = filtP zs pre ++ [xx]) := Lib.hid (by rw [filtP_snoc, hxx]; simp [hcv])
        clear hcv hxx
        gi_wp2_with fail
        refine ⟨trivial, ?_⟩
        refine (CallsIn.inRound l1 (callsIn_wide.2 HCON.out)).mono ?_
        rintro e w4 ⟨rfl, hb4⟩
        rw [HCV.out]
        have hok4 : OkV m xx w4 := ⟨HOKx.out.1, by obtain ⟨b, e, hi⟩ := HOKx.out.2; exact ⟨b, e, (hi.below hb4).mono hb4.size⟩⟩
        obtain ⟨fn, tmps, assign, body, hyd, hR⟩ := yield_any 3 (HY.out _ xx w4 (hJ.step hb4 HJr.out) hok4 HLN.out)
        rw [HXX2.out] at hyd
        dsimp only at hyd
        have q4 : HasBlk w4 W.heap.size #[.func (.yield l) #[] #[]] 80 := (hb4.block _ (lt_of_some HYr.out)).trans HYr.out
        have c4 := (blk_cell q4 0).trans (cell1_0 _)
        have cl4 := (hb4.cell (p := ⟨Bl, 0, none⟩) HBL.out.lt).trans HBL.out.cell
        have HB4 := Lib.hid hb4
        have HQ4 := Lib.hid q4
        clear hb4 q4 hok4
        gi_wp2
        refine hR.mono ?_
        rintro e w5 (⟨rfl, hj5, hb5⟩ | ⟨rfl, hj5, hb5⟩)
        · have hbt : But (fun j => j = l ∨ X j) Wr w5 := (But.of_below HB4.out).trans hb5
          have HB5 := Lib.hid hbt
          have HJ5 := Lib.hid hj5
          clear hj5 hb5 hbt
          gi_wp2
          exact ⟨HB5.out, by rw [HSN.out]; exact HJ5.out, HB5.out.keep (HNEW.out _ (Nat.le_refl _)) HYr.out, HBr.out.trans HB5.out⟩
        · have hbt : But (fun j => j = l ∨ X j) Wr w5 := (But.of_below HB4.out).trans hb5
          have HB5 := Lib.hid hbt
          have HJ5 := Lib.hid hj5
          clear hj5 hb5 hbt
          gi_wp2
          exact ⟨HB5.out, by rw [HSN.out]; exact HJ5.out, by rw [HSN.out]; simp⟩
    case done =>
      rintro E xs Wr hE hS ⟨hj, hy, hb⟩ hK
      have HJ := Lib.hid hj
      have HK := Lib.hid hK
      have HS := Lib.hid hS
      have HE : Hid (W.heap.size ≤ E) := Lib.hid (by have := HSC.out; have := HS1.out; omega)
      clear hj hK hS hy hb
      gi_wp2
      refine ⟨by simp, .inl ⟨_, _, rfl, run_takeDeferred HK.out, ?_⟩⟩
      exact ⟨_, results_none rfl _ _ _, ⟨_, rfl⟩, .inl ⟨_, by rw [filtP_map, HS.out], hJ.obj _ HE.out HJ.out⟩⟩
    case stop =>
      rintro E pre Wr hE ⟨hS, hn⟩ ⟨hj, hfn⟩ hK
      have HJ := Lib.hid hj
      have HK := Lib.hid hK
      have HS : Hid ((filtP zs pre).map (·.2) <+: (wordsL (palI k) m).filter (proB zs) ∧ filtP zs pre ≠ []) := Lib.hid ⟨by rw [filtP_map]; exact List.IsPrefix.filter _ hS, hfn⟩
      have HE : Hid (W.heap.size ≤ E) := Lib.hid (by have := HSC.out; have := HS1.out; omega)
      clear hj hK hS
      gi_wp2
      refine ⟨by simp, .inl ⟨_, _, rfl, run_takeDeferred HK.out, ?_⟩⟩
      exact ⟨_, results_none rfl _ _ _, ⟨_, rfl⟩, .inr ⟨_, HS.out, hJx.putObj _ HJ.out HE.out HK.out rfl⟩⟩

end Go.Proofs.YtphddemilibooaaDoor

/- It is proved what ColourProper of the program returns; conditions: those of each statement. -/
namespace Go.Proofs.YtphddemilibooaaDoor
open Go.RowKit Go.Shelf

attribute [local go_sem] Oper.semAt_some

def cntCP (m : Nat) (zs : List Int) (k : Nat) : Nat := (wordsL (palI k) m).countP (proB zs)
theorem cntCP_le (m : Nat) (zs : List Int) (k : Nat) : cntCP m zs k ≤ k ^ m := by
  unfold cntCP
  have := List.countP_le_length (p := proB zs) (l := wordsL (palI k) m)
  rw [wordsL_card, palI_len] at this
  exact this

def outCP (m : Int) (zs : List Int) (k : Int) : Int := if famIn m zs && colIn k 0 then ((cntCP m.toNat zs k.toNat : Nat) : Int) else 0
def okCP (m : Int) (zs : List Int) (k : Int) : Bool := famIn m zs && colIn k 0
set_option maxRecDepth 100000 in
theorem properly_any (m : Int) (a : Option Addr) (n c : Nat) (k : Int) (w : World) :
    Calls Tryd.prog 48 #[.agg #[.int .i64 m, .slice a n c], .int .i64 k, .func (.func 49) #[] #[]] w fun e w' => ∃ p : Nat, e = .returned (.func (.func 68) #[] #[.pointer (some ⟨p, 0, none⟩), .pointer (some ⟨p + 1, 0, none⟩), .pointer (some ⟨p + 2, 0, none⟩)]) ∧ w.heap.size ≤ p ∧ p + 2 < w'.heap.size ∧
      HasBlk w' p #[.int .i64 m, .slice a n c] 25 ∧ Boxed w' (p + 1) 3 (.int .i64 k) ∧ Boxed w' (p + 2) 66 (.func (.func 49) #[] #[]) ∧ Below w.heap.size w w' := by
  refine (coloured_any m a n c k 49 w).mono ?_
  rintro e w1 ⟨rfl, rfl⟩
  exact ⟨_, rfl, Nat.le_refl _, by simp, alloc3_0 _ _ _ _, alloc3_1 _ _ _ _, alloc3_2 _ _ _ _, below3 _ _ _ _⟩

set_option maxRecDepth 100000 in
set_option maxHeartbeats 4000000 in
theorem implColourProper_any (m k : Int) (a : Option Addr) (c : Nat) (zs : List Int) (w : World) (ha : Ints w w.heap.size a zs) (hT : Tab w) (hx : zs.length ≤ 1048576) :
    Calls Tryd.prog 20 #[.agg #[.int .i64 m, .slice a zs.length c], .int .i64 k] w (RetIB w (outCP m zs k) (okCP m zs k)) := by
  have HB0 := Lib.hid (below1 w (.cells #[.int .i64 m, .slice a zs.length c] 25))
  have HA := Lib.hid (ha.below HB0.out)
  have HA0 := Lib.hid ha
  clear ha
  cases hf : famIn m zs
  · have HF := Lib.hid hf
    have HZ : Hid (outCP m zs k = 0) := Lib.hid (by unfold outCP; rw [hf]; rfl)
    have HO : Hid (okCP m zs k = false) := Lib.hid (by unfold okCP; rw [hf]; rfl)
    clear hf hT
    go_enter Tryd.func20, Tryd.ntmps20
    go_wp2_with fail
    refine (implFamilyIn_any _ _ _ zs _ (HA.out.mono (by simp)) hx).mono ?_
    rintro e w1 ⟨rfl, hb⟩
    rw [HF.out]
    have HB := Lib.hid (HB0.out.trans (hb.mono (by simp)))
    clear hb
    go_wp2
    go_ret2
    exact ⟨by rw [HZ.out, HO.out]; rfl, HB.out⟩
  · cases hc : colIn k 0
    · have HF := Lib.hid hf
      have HC := Lib.hid hc
      have HZ : Hid (outCP m zs k = 0) := Lib.hid (by unfold outCP; rw [hf, hc]; rfl)
      have HO : Hid (okCP m zs k = false) := Lib.hid (by unfold okCP; rw [hf, hc]; rfl)
      clear hf hc hT
      go_enter Tryd.func20, Tryd.ntmps20
      go_wp2_with fail
      refine (implFamilyIn_any _ _ _ zs _ (HA.out.mono (by simp)) hx).mono ?_
      rintro e w1 ⟨rfl, hb⟩
      rw [HF.out]
      have HB := Lib.hid (HB0.out.trans (hb.mono (by simp)))
      clear hb
      go_wp2_with fail
      refine (coloursIn_any _ _ _).mono ?_
      rintro e w2 ⟨rfl, rfl⟩
      rw [HC.out]
      go_wp2
      go_ret2
      exact ⟨by rw [HZ.out, HO.out]; rfl, HB.out⟩
    · have HF := Lib.hid hf
      obtain ⟨k, rfl, hk4, -⟩ := colIn_nat (Int.le_refl 0) hc
      obtain ⟨m, rfl, hm1, hm6, hset, hl8⟩ := fam_nat2 hf
      have HC := Lib.hid hc
      have HZ : Hid (outCP (m : Int) zs (k : Int) = ((cntCP m zs k : Nat) : Int)) := Lib.hid (by unfold outCP; rw [hf, hc]; rfl)
      have HO : Hid (okCP (m : Int) zs (k : Int) = true) := Lib.hid (by unfold okCP; rw [hf, hc]; rfl)
      have HSET := Lib.hid hset
      have HFI := Lib.hid (implFamilyIn_any (m : Int) a c zs _ (HA.out.mono (show w.heap.size ≤ (w.alloc (.cells #[.int .i64 (m : Int), .slice a zs.length c] 25)).heap.size by simp)) hx)
      have hkm : k ^ m ≤ 4096 := Nat.le_trans (Nat.pow_le_pow_left hk4 m) (Nat.pow_le_pow_right (n := 4) (by decide) hm6)
      have hT1 := hT.lt
      have HT := Lib.hid hT
      have h16 : 1 ≤ 6 := by omega
      clear hf hc hset hT
      refine (callsIn_wide (n := 6)).1 ?_
      refine callsIn_of_wp_marks Tryd.func20 rfl trivial ?_ rfl
      simp only [Tryd.ntmps20, List.size_toArray, List.length_cons, List.length_nil, Nat.reduceAdd, Nat.reduceSub, Array.replicate_succ, Array.replicate_zero, List.push_toArray, List.append_toArray, List.nil_append, List.cons_append]
      gi_wp2_with fail
      refine ⟨trivial, ?_⟩
      refine (callsIn_wide.2 HFI.out).mono ?_
      rintro e w1 ⟨rfl, hb⟩
      rw [HF.out]
      gi_wp2_with fail
      refine ⟨trivial, ?_⟩
      refine (callsIn_wide.2 (coloursIn_any _ _ _)).mono ?_
      rintro e w2 ⟨rfl, rfl⟩
      rw [HC.out]
      have b0 : HasBlk w1 w.heap.size #[.int .i64 (m : Int), .slice a zs.length c] 25 := (hb.block _ (by simp)).trans (alloc_new w _)
      obtain ⟨W2, hW2, q0, q1, hs2, hb2⟩ : ∃ W2, w1.alloc (.cells #[.int .i64 0] 3) = W2 ∧ HasBlk W2 w.heap.size #[.int .i64 (m : Int), .slice a zs.length c] 25 ∧ Boxed W2 w1.heap.size 3 (.int .i64 ((([] : List (Value × List Int)).length : Nat) : Int)) ∧ W2.heap.size = w1.heap.size + 1 ∧ Below w1.heap.size w1 W2 :=
        ⟨_, rfl, HasBlk.alloc b0 _, alloc_new w1 _, by simp, below1 w1 _⟩
      have y0 := (blk_cell q0 0).trans (cell2_0 _ _)
      have y1 := (blk_cell q0 1).trans (cell2_1 _ _)
      rw [← hW2] at y0 y1
      have HW2 := Lib.hid hW2
      have HB1 : Hid (Below w.heap.size w w1) := Lib.hid (HB0.out.trans (hb.mono (by simp)))
      have HB2 := Lib.hid (HB1.out.trans (hb2.mono (Nat.le_of_lt (lt_of_some b0))))
      have HS2 := Lib.hid hs2
      have HQ1 := Lib.hid q1
      have HZ1 : Hid (w.heap.size < w1.heap.size) := Lib.hid (lt_of_some b0)
      clear hb b0 q0 q1 hs2 hb2 hW2
      gi_wp2_with fail
      refine ⟨trivial, ?_⟩
      rw [HW2.out]
      refine (callsIn_wide.2 (properly_any _ _ _ _ _ _)).mono ?_
      rintro e w3 ⟨p, rfl, hp0, hp1, bf, bk, bx, hb3⟩
      have hlo : Below w.heap.size w w3 := HB2.out.trans (hb3.mono HB2.out.size)
      have hseq := coloured1P_in (6 - 1) w.heap.size p (p + 1) (p + 2) m k hm1 hm6 (by omega) a c zs hx HSET.out (fun j => j = w1.heap.size) w3 hlo.size (fun j e => by have := HZ1.out; omega) (fun e => by have := HS2.out; omega) (fun e => by have := HS2.out; omega) (fun e => by have := HS2.out; omega) bf bk bx (HA0.out.below hlo) (HT.out.below hlo hT1) (by omega)
      have HSEQ := Lib.hid hseq
      have HLO := Lib.hid hlo
      have HQ3 : Hid (Boxed w3 w1.heap.size 3 (.int .i64 ((([] : List (Value × List Int)).length : Nat) : Int))) := Lib.hid ((hb3.block _ (by have := HS2.out; omega)).trans HQ1.out)
      have HS3 : Hid (w1.heap.size < w3.heap.size) := Lib.hid (by have := hb3.size; have := HS2.out; omega)
      clear hb3 hlo hseq bf bk bx hp0 hp1
      gi_wp2
      refine wpIn_rangeFunc_but (n := 6) h16 (gf := 68) (lb := #[.pointer (some ⟨p, 0, none⟩), .pointer (some ⟨p + 1, 0, none⟩), .pointer (some ⟨p + 2, 0, none⟩)]) rfl (enters_of Tryd.func68 (by kernel_rfl) rfl)
        HSEQ.out (Below.refl _ _) (fun j e => by have := HS3.out; omega) (fun _ => rfl)
        (fun x A l' o h hl => ⟨h.1, by obtain ⟨a', e, hi⟩ := h.2; exact ⟨a', e, by have := ints_putObj (o := o) hi hl; simpa using this⟩⟩)
        (fun pre Wr => Boxed Wr w1.heap.size 3 (.int .i64 ((pre.length : Nat) : Int)) ∧ But (fun j => j = w1.heap.size) w3 Wr)
        (fun _ _ => False)
        ?own (fun _ _ _ _ h _ _ => h) ⟨HQ3.out, But.refl _ _⟩
        (fun x a' _ => a' = { tmps := #[.agg #[.int .i64 (m : Int), .slice a zs.length c], .int .i64 (k : Int), .pointer (some ⟨w.heap.size, 0, none⟩), undef, .int .i64 0, .bool false, .pointer (some ⟨w1.heap.size, 0, none⟩), .agg #[.int .i64 (m : Int), .slice a zs.length c], .bool true, .bool false, .bool false, .int .i64 (k : Int), .bool true, .bool false, .bool false, .agg #[.int .i64 (m : Int), .slice a zs.length c], .int .i64 (k : Int), .func (.func 68) #[] #[.pointer (some ⟨p, 0, none⟩), .pointer (some ⟨p + 1, 0, none⟩), .pointer (some ⟨p + 2, 0, none⟩)], x.1, undef, undef, undef], defers := [] })
        (fun _ _ _ _ _ h _ => h) ?assign ?body ?done (fun _ _ _ _ _ h _ => h.elim)
      case own =>
        rintro s A C row ⟨hj, hb⟩ hg hr
        have hs3 := HS3.out
        refine ⟨HasBlk.kept hj hg (fun e => by have := hr _ e; omega), ?_⟩
        exact ⟨hg.os.trans hb.os, hg.tape.trans hb.tape, hg.output.trans hb.output, Nat.le_trans hb.size hg.size, fun i hi hX => (hg.block i (Nat.lt_of_lt_of_le hi hb.size) (fun e => by have := hr i e.symm; omega)).trans (hb.same i hi hX)⟩
      case assign =>
        rintro l1 pre ⟨x1, x2⟩ Wr K hI ⟨hlen, a', ha', hints⟩ hsz hK
        dsimp only at ha' hlen hints
        subst ha'
        gi_wp2
        exact hK _ _ (But.refl _ _) hI ⟨hlen, _, rfl, hints⟩ rfl
      case body =>
        rintro l1 pre ⟨x1, x2⟩ a2 Wr hl1' ⟨hj, hb⟩ hok rfl hlt
        have hl0 : pre.length < 4096 := Nat.lt_of_lt_of_le hlt hkm
        obtain ⟨N, hN⟩ : ∃ N, N = pre.length := ⟨_, rfl⟩
        rw [← hN] at hj hl0
        have hNI : (N : Int) < 4096 := by omega
        have hN0 : (0 : Int) ≤ (N : Int) := by omega
        have c1 := hj.cell
        have g1 := hj.frozen
        have HJ2 : Hid (Boxed (Wr.setCell ⟨w1.heap.size, 0, none⟩ (.int .i64 ((N : Int) + 1))) w1.heap.size 3 (.int .i64 ((N : Int) + 1))) := Lib.hid (hj.set _)
        have HBS : Hid (But (fun j => j = w1.heap.size) Wr (Wr.setCell ⟨w1.heap.size, 0, none⟩ (.int .i64 ((N : Int) + 1)))) := Lib.hid (But.setCell _ _ _ _ (fun _ => rfl))
        have HB := Lib.hid hb
        have HN := Lib.hid hN
        clear hj hb hok hlt hN
        gi_wp2
        refine ⟨HBS.out, ?_, HB.out.trans HBS.out⟩
        rw [List.length_append, List.length_singleton, ← HN.out, show ((N + 1 : Nat) : Int) = (N : Int) + 1 from by omega]
        exact HJ2.out
      case done =>
        rintro E xs Wr hE hS ⟨hj, hb⟩ hK
        have hc2 : xs.length = cntCP m zs k := by
          have := congrArg List.length hS
          rw [List.length_map] at this
          rw [this, cntCP, List.countP_eq_length_filter]
        rw [hc2] at hj
        have c1 := hj.cell
        have HK := Lib.hid hK
        have HBB : Hid (Below w.heap.size w Wr) := Lib.hid (HLO.out.trans (hb.below (B := w.heap.size) HLO.out.size (fun j e => by have := HZ1.out; omega)))
        have HE : Hid (w.heap.size ≤ E) := Lib.hid (Nat.le_trans HLO.out.size hE)
        clear hj hb hK hS hc2
        gi_wp2
        refine ⟨by simp, .inl ⟨_, _, rfl, run_takeDeferred HK.out, ?_⟩⟩
        refine ⟨.tuple #[.int .i64 ((cntCP m zs k : Nat) : Int), .bool true], by simp [results, Tryd.results20, go_sem], ?_, ?_⟩
        · rw [HZ.out, HO.out]
        · exact HBB.out.grown (grownBy_putObj' Wr E _) HBB.out.size (fun g e => by injection e with e; subst e; exact HE.out)

end Go.Proofs.YtphddemilibooaaDoor

/- It is proved what compare of clubList returns; conditions: those of each statement. -/
namespace Go.Proofs.YtphddemilibooaaDoor
open Go.RowKit Go.Shelf

theorem ints_blk {W : World} {b : Nat} {t : TypeId} {xs : List Int} (h : HasBlk W b (iv xs) t) (B : Nat) (hb : b < B) : Ints W B (some ⟨b, 0, none⟩) xs :=
  .inr ⟨b, 0, rfl, hb, fun j hj => by rw [Nat.zero_add]; exact (blk_cell h j).trans (iv_at xs j hj)⟩

end Go.Proofs.YtphddemilibooaaDoor
