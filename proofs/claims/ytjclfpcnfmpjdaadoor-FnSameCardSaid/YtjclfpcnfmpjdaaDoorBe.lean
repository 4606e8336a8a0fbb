/- It is proved what l2Equal returns, and what appending a row to rows leaves; conditions: those of each statement. -/
import Derived.Maps.AppendAt
import Derived.RowKit
import Derived.Laws.CopyRow
import Derived.Lib.SlBuf
import Derived.RangeFuncNested
import Derived.RangeFuncBound
import Derived.RangeFuncCalls
import Derived.RangeFuncLeaves
import Derived.RangeFuncBox
import Derived.RangeFuncWrites
import Derived.Test.YtjclfpcnfmpjdaaDoorRows
import Derived.WalkKit
import Derived.WalkSpells
import Derived.ProofKit
import Derived.OpenShut
import Derived.ShutString
import Derived.ChangeOld
import Derived.Below
import Derived.Deep.RegionHeld3
import Derived.Deep.QuietTactic
import Derived.BigQuiet
import Derived.Lib.Hide
import Derived.Lib.SmallJoins
import Derived.Outline
import Derived.Laws.MakeOwn
import Derived.Laws.OwnMore
import Derived.IntWalk
import Derived.Lib.AppendZeros
import Derived.Deep.AppendLies
import Derived.OwnWalk
import Derived.Lib.SlicesCompact
import Derived.Lib.OwnBridge
import Derived.Shelf.Sort.Plain
import Derived.Shelf.Slices.In.SortNone
import Derived.Shelf.Slices.CompactI
import Derived.Ground.Names2Prog
import Derived.Shelf.Abstract
import Derived.Shelf.RegionOpen
import Derived.OwnWalkIn
import Derived.TacticsInMore
import Derived.LoopNIn
import Derived.LoopIn
import Derived.StillTail
import Derived.StillTactics
import Derived.OrdersIn
import Derived.TacticsIn
import Derived.Shelf.Spec.TrailingZeros
import Derived.StillTailTactics
import Derived.Test.YtjclfpcnfmpjdaaDoorMpa
import Derived.Test.YtjclfpcnfmpjdaaDoorBa
import Derived.Test.YtjclfpcnfmpjdaaDoorBd
import Derived.Test.YtjclfpcnfmpjdaaDoorMpb
namespace Go.Proofs.YtjclfpcnfmpjdaaDoor
open Go.RowKit Go.Shelf

set_option maxRecDepth 100000 in
set_option maxHeartbeats 1000000 in
theorem equal_any (a b : Option Addr) (c d : Nat) (xs ys : List Int) (w : World) (ha : Ints w w.heap.size a xs) (hb : Ints w w.heap.size b ys) (hx : xs.length ≤ 1048576) (hy : ys.length ≤ 1048576) :
    Calls Tryd.prog 50 #[.slice a xs.length c, .slice b ys.length d] w fun e w' => e = .returned (.bool (decide (xs = ys))) ∧ Below w.heap.size w w' := by
  have hlb := lex_both xs ys
  obtain ⟨p, hp⟩ : ∃ p, p = lexB xs ys := ⟨_, rfl⟩
  obtain ⟨q, hq⟩ : ∃ q, q = lexB ys xs := ⟨_, rfl⟩
  rw [← hp, ← hq] at hlb
  have HL := Lib.hid hlb
  have h1 := before_any a b c d xs ys w ha hb hx hy
  rw [← hp] at h1
  have h2 : ∀ W, Below w.heap.size w W → Calls Tryd.prog 85 #[.slice b ys.length d, .slice a xs.length c] W fun e w' => e = .returned (.bool q) ∧ Below W.heap.size W w' := fun W hW => by
    rw [hq]
    exact before_any b a d c ys xs W ((hb.below hW).mono hW.size) ((ha.below hW).mono hW.size) hy hx
  have H2 := Lib.hid h2
  clear hlb hp hq h2 ha hb
  cases p
  · go_enter Tryd.func50, Tryd.ntmps50
    go_wp2_with fail
    refine h1.mono ?_
    rintro e w1 ⟨rfl, hb1⟩
    have hc2 := H2.out w1 hb1
    have HB1 := Lib.hid hb1
    clear h1 hb1
    go_wp2_with (go_at_call 85; refine hc2.mono ?_; rintro e w2 ⟨rfl, hb2⟩)
    go_ret
    exact ⟨by rw [← HL.out]; cases q <;> rfl, HB1.out.trans (hb2.mono HB1.out.size)⟩
  · go_enter Tryd.func50, Tryd.ntmps50
    go_wp2_with (go_at_call 85; refine h1.mono ?_; rintro e w1 ⟨rfl, hb1⟩)
    go_ret
    exact ⟨by rw [← HL.out]; cases q <;> rfl, hb1⟩

theorem Rws.kept {W W' : World} {B : Nat} {v : Value} {L : List (List Int)} {row : Option Nat} {B' n' : Nat} {v' : Value} {xs' : List Value} (h : Rws W B v L) (hg : W.grownBy W' row) (hr : row = v'.ownBlock) (hv' : W.ownsRow B' 23 1 v' n' xs') (hne : v.ownBlock = none ∨ v.ownBlock ≠ row) : Rws W' B v L := by
  obtain ⟨vals, h1, h2⟩ := h
  subst hr
  exact ⟨vals, h1.kept hg hne, fun i hi => by
    obtain ⟨a, c, e, ho⟩ := h2 i hi
    exact ⟨a, c, e, ho.kept hg (type_ne ho hv' (by decide))⟩⟩

/-- A row that is there is put behind rows. -/
theorem app_row {W : World} {B : Nat} {v : Value} {L : List (List Int)} (hR : Rws W B v L) (hBW : B ≤ W.heap.size) (hL : L.length ≤ 100000) (a1 : Option Addr) (c1 k : Nat) (l : List Int) (hl : l.length = k) (h1 : OwnN W B a1 k c1 l) (ga : Nat) (hga : ga < W.heap.size) (hne : v.ownBlock ≠ some ga) :
    ∃ a5 c5 w5, (Builtin.append_ #[82, 82] 82 #[v, .slice (some ⟨W.heap.size, 0, none⟩) 1 1]).run Tryd.prog (W.alloc (.cells #[.slice a1 k c1] 23)) = .ok (.slice a5 (L.length + 1) c5) w5 ∧
      Rws w5 B (.slice a5 (L.length + 1) c5) (L ++ [l]) ∧ (Value.slice a5 (L.length + 1) c5).ownBlock ≠ some ga ∧ (W.alloc (.cells #[.slice a1 k c1] 23)).grownBy w5 v.ownBlock ∧ (∃ n' xs', (W.alloc (.cells #[.slice a1 k c1] 23)).ownsRow B 23 1 v n' xs') ∧ Below B W w5 := by
  obtain ⟨i0, hi0, hz0, hz1, hz2⟩ := info_parts Tryd.infoRow
  obtain ⟨vals, hv1, hv2⟩ := hR.alloc (.cells #[.slice a1 k c1] 23)
  have ho5 := World.ownsRow.alloc h1 (.cells #[.slice a1 k c1] 23)
  have hnb := alloc_new W (.cells #[.slice a1 k c1] 23)
  have hb5 : Below W.heap.size W (W.alloc (.cells #[.slice a1 k c1] 23)) := below1 W _
  obtain ⟨v', w5, hr5, h2, h3, _, h4⟩ := run_append_own_at (P := Tryd.prog) (w := W.alloc (.cells #[.slice a1 k c1] 23)) B 82 82 23 i0 (.slice none 0 0) 1 24 Tryd.underlying82 hi0 hz0 hz1 hz2 rfl (by decide) v L.length vals hv1 ⟨W.heap.size, 0, none⟩ 1 1 [.slice a1 k c1] (by simp)
    (fun j u hu => by
      have hj : j = 0 := by have := (List.getElem?_eq_some_iff.1 hu).1; simpa using this
      subst hj
      simp at hu
      subst hu
      exact blk_cell hnb 0) (by simp [Value.oneCell']) (by simp only [maxLen]; omega) (by omega) (Nat.le_trans hBW hb5.size)
  obtain ⟨a5, c5, rfl⟩ : ∃ a5 c5, v' = .slice a5 (L.length + 1) c5 := by
    rcases h2.2 with ⟨rfl, e⟩ | ⟨g, cap, cur, rfl, _⟩
    · omega
    · exact ⟨_, _, rfl⟩
  have hsz : (W.alloc (.cells #[.slice a1 k c1] 23)).heap.size = W.heap.size + 1 := by simp
  refine ⟨a5, c5, w5, hr5, ⟨vals ++ [.slice a1 k c1], by rw [List.length_append]; exact h2, fun i hi => ?_⟩, ?_, h3, ⟨_, _, hv1⟩, ?_⟩
  · have hvl : vals.length = L.length := by have := hv1.1; omega
    rw [List.length_append] at hi
    by_cases hil : i < L.length
    · rw [List.getElem?_append_left (by omega), List.getElem?_append_left hil]
      obtain ⟨a', c', e, ho⟩ := hv2 i hil
      exact ⟨a', c', e, ho.kept h3 (type_ne ho hv1 (by decide))⟩
    · have hie : i = L.length := by simp at hi; omega
      subst hie
      rw [List.getElem?_append_right (by omega), List.getElem?_append_right (by omega), hvl, Nat.sub_self]
      refine ⟨a1, c1, by simp [hl], ?_⟩
      have h6 := ho5.kept h3 (type_ne ho5 hv1 (by decide))
      simp only [List.getElem?_cons_zero, Option.getD_some, hl]
      exact h6
  · rcases h4 with h | h
    · rw [h]; exact hne
    · rw [h, hsz]; intro e; injection e with e; omega
  · exact (hb5.mono hBW).grown h3 (Nat.le_trans hBW hb5.size) (fun g e => (World.ownsRow.lt hv1 g e).1)

end Go.Proofs.YtjclfpcnfmpjdaaDoor
