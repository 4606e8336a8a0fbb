/- It is proved that two families drawn from bytes can be read; conditions: those of each statement. -/
import Derived.Deep.DeepCutAuto
import Derived.Test.YtgpgocijacgkhaaDoorRows
import Derived.WalkKit
import Derived.WalkSpells
import Derived.ProofKit
import Derived.OpenShut
import Derived.ShutString
import Derived.ChangeOld
import Derived.Below
import Derived.Deep.RegionHeld3
import Derived.Deep.QuietTactic
import Derived.BigQuiet
import Derived.Lib.Hide
import Derived.Lib.SmallJoins
import Derived.Outline
import Derived.Laws.MakeOwn
import Derived.Laws.OwnMore
import Derived.IntWalk
import Derived.Deep.RegionLaw
import Derived.Deep.AppendLies
import Derived.Deep.RegionWith
import Derived.Lib.AppendZeros
import Derived.Maps.AppendAt
import Derived.OwnWalk
import Derived.RangeFuncNested
import Derived.RangeFuncBound
import Derived.RangeFuncCalls
import Derived.RangeFuncLeaves
import Derived.RangeFuncBox
import Derived.Shelf.Abstract
import Derived.Shelf.RegionOpen
import Derived.OwnWalkIn
import Derived.TacticsInMore
import Derived.LoopNIn
import Derived.LoopIn
import Derived.StillTail
import Derived.StillTactics
import Derived.OrdersIn
import Derived.TacticsIn
import Derived.Shelf.Spec.TrailingZeros
import Derived.StillTailTactics
import Derived.Test.YtgpgocijacgkhaaDoorRaaa
import Derived.Test.YtgpgocijacgkhaaDoorRaab
import Derived.Test.YtgpgocijacgkhaaDoorDb
import Derived.Test.YtgpgocijacgkhaaDoorRaag
import Derived.Test.YtgpgocijacgkhaaDoorRaay
import Derived.Test.YtgpgocijacgkhaaDoorDn
import Derived.Test.YtgpgocijacgkhaaDoorRaah
import Derived.Test.YtgpgocijacgkhaaDoorRabqxFnAlik
import Derived.Test.YtgpgocijacgkhaaDoorRabgxFnAlik
import Derived.Test.YtgpgocijacgkhaaDoorRaac
import Derived.Test.YtgpgocijacgkhaaDoorRaai
namespace Go.Proofs.YtgpgocijacgkhaaDoor
open Go.RowKit

/-- Two families, each in memory that the call made. -/
def DrawnFF (w : World) (e : Ending) (W : World) : Prop :=
  ∃ (m : Int) (a : Option Addr) (xs : List Int) (c : Nat) (k : Int) (b : Option Addr) (ys : List Int) (d : Nat), e = .returned (.tuple #[.agg #[.int .i64 m, .slice a xs.length c], .agg #[.int .i64 k, .slice b ys.length d]]) ∧ (xs.length ≤ 9 ∧ ys.length ≤ 9) ∧ Ints W W.heap.size a xs ∧ Ints W W.heap.size b ys ∧ Below w.heap.size w W

/-- What the drawing of a second family keeps: the results' blocks, the reader, the first family. -/
structure FF0 (w : World) (P X5 : Nat) (m : Int) (a : Option Addr) (xs : List Int) (c : Nat) (ra : Option Addr) (rn rc : Nat) (W : World) : Prop where
  r2 : HasBlk W w.heap.size #[.int .i64 0, .slice none 0 0] 25
  r3 : HasBlk W (w.heap.size + 1) #[.int .i64 0, .slice none 0 0] 25
  rd : ∃ p, p ≤ P ∧ Rd W (w.heap.size + 1 + 1) ra rn rc p
  bys : Bys W (w.heap.size + 1 + 1) ra rn
  x5 : HasBlk W X5 #[.int .i64 m, .slice a xs.length c] 25
  f : XO (w.heap.size + 1 + 1 + 1) X5 a xs.length c xs W
  lo : w.heap.size + 1 + 1 < X5
  bel : Below w.heap.size w W

section
variable {w : World} {P X5 : Nat} {m : Int} {a : Option Addr} {xs : List Int} {c : Nat} {ra : Option Addr} {rn rc : Nat} {W W' : World}
theorem FF0.lt (h : FF0 w P X5 m a xs c ra rn rc W) : X5 < W.heap.size := lt_of_some h.x5
theorem FF0.ltR (h : FF0 w P X5 m a xs c ra rn rc W) : w.heap.size + 1 + 1 < W.heap.size := Nat.lt_trans h.lo h.lt
theorem FF0.ds (h : FF0 w P X5 m a xs c ra rn rc W) : DS W (w.heap.size + 1 + 1) ra rn rc P W := ⟨h.rd, World.grownBy.refl _ _⟩
theorem FF0.read (h : FF0 w P X5 m a xs c ra rn rc W) {Q : Nat} (hR : DS W (w.heap.size + 1 + 1) ra rn rc Q W') : FF0 w Q X5 m a xs c ra rn rc W' := by
  have hg := hR.gr
  have h5 := h.lo
  exact ⟨h.r2.kept hg (fun e => by injection e; omega), h.r3.kept hg (fun e => by injection e; omega), hR.rd, h.bys.kept h.ltR hg, h.x5.kept hg (fun e => by injection e; omega),
    h.f.kept hg (fun g e => by injection e; omega), h.lo, h.bel.grown hg h.bel.size (fun g e => by injection e; omega)⟩

theorem FF0.more (h : FF0 w P X5 m a xs c ra rn rc W) {row : Option Nat} (hg : W.grownBy W' row) (hr : ∀ g, row = some g → X5 < g) : FF0 w P X5 m a xs c ra rn rc W' := by
  have h5 := h.lo
  have l5 := h.lt
  obtain ⟨p, hp, hrd⟩ := h.rd
  have nr : ∀ k, k ≤ X5 → row ≠ some k := fun k hk e => by have := hr k e; omega
  have hb : Below (w.heap.size + 1 + 1) W W' := ⟨hg.os, hg.tape, hg.output, hg.size, fun k hk => hg.block k (by omega) (fun e => nr k (by omega) e.symm)⟩
  exact ⟨h.r2.kept hg (nr _ (by omega)), h.r3.kept hg (nr _ (by omega)), ⟨p, hp, HasBlk.kept hrd hg (nr _ (by omega))⟩, h.bys.below hb, h.x5.kept hg (nr _ (by omega)),
    h.f.kept hg (fun g e => by have := hr g e; omega), h.lo, h.bel.trans (hb.mono (by omega))⟩

theorem FF0.step (h : FF0 w P X5 m a xs c ra rn rc W) (hb : Below W.heap.size W W') : FF0 w P X5 m a xs c ra rn rc W' := h.more (only_of_below hb none) (fun g e => by cases e)
theorem FF0.drew (h : FF0 w P X5 m a xs c ra rn rc W) : FF0 w P X5 m a xs c ra rn rc W.drew := h.step ⟨rfl, rfl, rfl, Nat.le_refl _, fun _ _ => rfl⟩
theorem FF0.alloc (h : FF0 w P X5 m a xs c ra rn rc W) (o : Obj) : FF0 w P X5 m a xs c ra rn rc (W.alloc o) := h.step (below1 W o)
theorem FF0.x50 (h : FF0 w P X5 m a xs c ra rn rc W) : W.cell? ⟨X5, 0, none⟩ = some (.int .i64 m) := (blk_cell h.x5 0).trans (cell2_0 _ _)
theorem FF0.x51 (h : FF0 w P X5 m a xs c ra rn rc W) : W.cell? ⟨X5, 1, none⟩ = some (.slice a xs.length c) := (blk_cell h.x5 1).trans (cell2_1 _ _)
end
theorem XO.set {lo hi : Nat} {a : Option Addr} {n cap : Nat} {zs : List Int} {W : World} (h : XO lo hi a n cap zs W) (p : Addr) (v : Value) (hp : p.block < lo ∨ hi ≤ p.block) : XO lo hi a n cap zs (W.setCell p v) :=
  h.kept (only_setCell (World.grownBy.refl W (some p.block)) rfl v) (fun g e => by injection e with e; rw [← e]; exact hp)

theorem HasBlk.set2 {W : World} {b : Nat} {x y : Value} {t : TypeId} (h : HasBlk W b #[x, y] t) (u v : Value) : HasBlk ((W.setCell ⟨b, 0, none⟩ u).setCell ⟨b, 1, none⟩ v) b #[u, v] t :=
  heap_setCell_same _ b 1 _ t v (heap_setCell_same W b 0 _ t u h)

/-- .. and the second one. -/
structure FF (w : World) (P X5 X6 : Nat) (m mm : Int) (a b : Option Addr) (xs ys : List Int) (c d : Nat) (ra : Option Addr) (rn rc : Nat) (W : World) : Prop where
  z : FF0 w P X5 m a xs c ra rn rc W
  x6 : HasBlk W X6 #[.int .i64 mm, .slice b ys.length d] 25
  lt : X5 < X6
  g : ∃ lo hi, XO lo hi b ys.length d ys W ∧ X5 < lo ∧ (X6 < lo ∨ hi ≤ X6)

theorem ff_new {w : World} {P X5 : Nat} {m mm : Int} {a b : Option Addr} {xs ys : List Int} {c d : Nat} {ra : Option Addr} {rn rc : Nat} {W : World} (h : FF0 w P X5 m a xs c ra rn rc W) {B : Nat} (hB : X5 < B) (ho : OwnI W B (.slice b ys.length d) ys) :
    FF w P X5 W.heap.size m mm a b xs ys c d ra rn rc (W.alloc (.cells #[.int .i64 mm, .slice b ys.length d] 25)) :=
  ⟨h.alloc _, alloc_new W _, h.lt, B, W.heap.size, (XO.start ho).step (below1 W _), hB, .inr (Nat.le_refl _)⟩

theorem ff_set {w : World} {P X5 X6 : Nat} {m mm : Int} {a b : Option Addr} {xs ys : List Int} {c d : Nat} {ra : Option Addr} {rn rc : Nat} {W : World} (h : FF0 w P X5 m a xs c ra rn rc W) {B : Nat} (h6 : X5 < X6) (hB : X6 < B) (ho : OwnI W B (.slice b ys.length d) ys) {x y : Value} (hx : HasBlk W X6 #[x, y] 25) :
    FF w P X5 X6 m mm a b xs ys c d ra rn rc ((W.setCell ⟨X6, 0, none⟩ (.int .i64 mm)).setCell ⟨X6, 1, none⟩ (.slice b ys.length d)) := by
  have hg : W.grownBy ((W.setCell ⟨X6, 0, none⟩ (.int .i64 mm)).setCell ⟨X6, 1, none⟩ (.slice b ys.length d)) (some X6) := only_setCell (p := ⟨X6, 1, none⟩) (only_setCell (p := ⟨X6, 0, none⟩) (World.grownBy.refl _ _) rfl _) rfl _
  exact ⟨h.more hg (fun g e => by injection e with e; rw [← e]; exact h6), hx.set2 _ _, h6, B, W.heap.size, (XO.start ho).kept hg (fun g e => by injection e; omega), by omega, .inl hB⟩

theorem FF.read {w : World} {P X5 X6 : Nat} {m mm : Int} {a b : Option Addr} {xs ys : List Int} {c d : Nat} {ra : Option Addr} {rn rc : Nat} {W W' : World} (h : FF w P X5 X6 m mm a b xs ys c d ra rn rc W) {Q : Nat} (hR : DS W (w.heap.size + 1 + 1) ra rn rc Q W') : FF w Q X5 X6 m mm a b xs ys c d ra rn rc W' := by
  have h5 := h.z.lo
  have h6 := h.lt
  obtain ⟨lo, hi, hx, h1, h2⟩ := h.g
  exact ⟨h.z.read hR, h.x6.kept hR.gr (fun e => by injection e; omega), h.lt, lo, hi, hx.kept hR.gr (fun g e => by injection e; omega), h1, h2⟩

theorem FF.drew {w : World} {P X5 X6 : Nat} {m mm : Int} {a b : Option Addr} {xs ys : List Int} {c d : Nat} {ra : Option Addr} {rn rc : Nat} {W : World} (h : FF w P X5 X6 m mm a b xs ys c d ra rn rc W) : FF w P X5 X6 m mm a b xs ys c d ra rn rc W.drew := by
  obtain ⟨lo, hi, hx, h1, h2⟩ := h.g
  exact ⟨h.z.drew, h.x6, h.lt, lo, hi, hx.drew, h1, h2⟩

theorem FF.more {w : World} {P Q X5 X6 : Nat} {m mm : Int} {a b : Option Addr} {xs ys : List Int} {c d : Nat} {ra : Option Addr} {rn rc : Nat} {W : World} (h : FF w P X5 X6 m mm a b xs ys c d ra rn rc W) (hQ : P ≤ Q) : FF w Q X5 X6 m mm a b xs ys c d ra rn rc W := by
  obtain ⟨p, hp, hr⟩ := h.z.rd
  exact ⟨⟨h.z.r2, h.z.r3, ⟨p, by omega, hr⟩, h.z.bys, h.z.x5, h.z.f, h.z.lo, h.z.bel⟩, h.x6, h.lt, h.g⟩

set_option maxRecDepth 100000 in
set_option maxHeartbeats 8000000 in
theorem drawAlikeIn_any (a : Option Addr) (n cap : Nat) (w : World) (hb : Bys w w.heap.size a n) (hn : n ≤ 1048576) (hc : n ≤ cap) (hc2 : cap ≤ 9223372036854775807) :
    Calls Tryd.prog 27 #[.slice a n cap] w (DrawnFF w) := by
  have ha : n ≠ 0 → ∃ g off, a = some ⟨g, off, none⟩ := fun h => by obtain ⟨g, off, e, _⟩ := hb.resolve_left h; exact ⟨g, off, e⟩
  have HB := Lib.hid hb
  clear hb
  go_enter Tryd.func27, Tryd.ntmps27
  go_wp2_with fail
  refine (openD_any a n cap _ hn hc hc2 ha).mono ?_
  rintro e w1 ⟨k, hk, rfl, rfl⟩
  have b1 := below3 w (.cells #[.int .i64 0, .slice none 0 0] 25) (.cells #[.int .i64 0, .slice none 0 0] 25) (.cells #[.slice a k cap, .int .i64 0] 87)
  have q2 := alloc3_0 w (.cells #[.int .i64 0, .slice none 0 0] 25) (.cells #[.int .i64 0, .slice none 0 0] 25) (.cells #[.slice a k cap, .int .i64 0] 87)
  have q3 := alloc3_1 w (.cells #[.int .i64 0, .slice none 0 0] 25) (.cells #[.int .i64 0, .slice none 0 0] 25) (.cells #[.slice a k cap, .int .i64 0] 87)
  have q4 := alloc3_2 w (.cells #[.int .i64 0, .slice none 0 0] 25) (.cells #[.int .i64 0, .slice none 0 0] 25) (.cells #[.slice a k cap, .int .i64 0] 87)
  have hs1 : (((w.alloc (.cells #[.int .i64 0, .slice none 0 0] 25)).alloc (.cells #[.int .i64 0, .slice none 0 0] 25)).alloc (.cells #[.slice a k cap, .int .i64 0] 87)).heap.size = w.heap.size + 1 + 1 + 1 := by simp
  go_wp2_with fail
  obtain ⟨W1, hW1⟩ : ∃ W1, W1 = ((w.alloc (.cells #[.int .i64 0, .slice none 0 0] 25)).alloc (.cells #[.int .i64 0, .slice none 0 0] 25)).alloc (.cells #[.slice a k cap, .int .i64 0] 87) := ⟨_, rfl⟩
  rw [← hW1]
  rw [← hW1] at b1 q2 q3 q4 hs1
  have HD1 : Hid (DS W1 (w.heap.size + 1 + 1) a k cap 0 W1) := Lib.hid ⟨⟨0, Nat.le_refl _, q4⟩, World.grownBy.refl _ _⟩
  have HB1 := Lib.hid ((HB.out.below b1).fewer (B' := w.heap.size + 1 + 1) (by omega) hk)
  have HX2 : Hid (HasBlk W1 w.heap.size #[.int .i64 0, .slice none 0 0] 25) := Lib.hid q2
  have HX3 : Hid (HasBlk W1 (w.heap.size + 1) #[.int .i64 0, .slice none 0 0] 25) := Lib.hid q3
  have HBL := Lib.hid b1
  have HS1 := Lib.hid hs1
  clear b1 q2 q3 q4 hs1 hW1
  refine (someD_any 5 5 5 5 rfl rfl (by decide) (by decide) (by decide) (w.heap.size + 1 + 1) a k cap 0 W1 HD1.out HB1.out (by have := HS1.out; omega) (by omega) (by omega)).mono ?_
  rintro e w2 ⟨m, a2, xs, c2, rfl, ⟨hl, hm1, hm6⟩, ho, D2⟩
  have hg2 := D2.gr
  have hs2 : w.heap.size + 1 + 1 + 1 ≤ w2.heap.size := by have := hg2.size; have := HS1.out; omega
  have HRd : Hid (∃ p, p ≤ 200 ∧ Rd w2 (w.heap.size + 1 + 1) a k cap p) := Lib.hid (by obtain ⟨p, hp, h⟩ := D2.rd; exact ⟨p, by omega, h⟩)
  have HBy2 : Hid (Bys w2 (w.heap.size + 1 + 1) a k) := Lib.hid (HB1.out.kept (by have := HS1.out; omega) hg2)
  have HO : Hid (XO (w.heap.size + 1 + 1 + 1) w2.heap.size a2 xs.length c2 xs w2) := Lib.hid (XO.start (own_mono ho (by have := HS1.out; omega)))
  have HQ2 : Hid (HasBlk w2 w.heap.size #[.int .i64 0, .slice none 0 0] 25) := Lib.hid (HX2.out.kept hg2 (fun e => by injection e; omega))
  have HQ3 : Hid (HasBlk w2 (w.heap.size + 1) #[.int .i64 0, .slice none 0 0] 25) := Lib.hid (HX3.out.kept hg2 (fun e => by injection e; omega))
  have HBW : Hid (Below w.heap.size w w2) := Lib.hid (HBL.out.grown hg2 HBL.out.size (fun g e => by injection e; omega))
  clear ho D2 hg2 HX2 HX3 HD1 HB1 HBL
  obtain ⟨k0, hk0⟩ : ∃ k0 : Nat, m = (k0 : Int) := ⟨m.toNat, by omega⟩
  subst hk0
  obtain ⟨W3, hW3, hs3⟩ : ∃ W3, W3 = w2.alloc (.cells #[.int .i64 (k0 : Int), .slice a2 xs.length c2] 25) ∧ W3.heap.size = w2.heap.size + 1 := ⟨_, rfl, by simp⟩
  have bw3 := below1 w2 (.cells #[.int .i64 (k0 : Int), .slice a2 xs.length c2] 25)
  have qx5 := alloc_new w2 (.cells #[.int .i64 (k0 : Int), .slice a2 xs.length c2] 25)
  rw [← hW3] at bw3 qx5
  have H3 : Hid (FF0 w 200 w2.heap.size (k0 : Int) a2 xs c2 a k cap W3) := Lib.hid (by
    obtain ⟨p, hp, h⟩ := HRd.out
    exact ⟨(bw3.block _ (by omega)).trans HQ2.out, (bw3.block _ (by omega)).trans HQ3.out, ⟨p, hp, (bw3.block _ (by omega)).trans h⟩, HBy2.out.below (bw3.mono (by omega)), qx5, HO.out.step bw3, by omega, HBW.out.trans (bw3.mono HBW.out.size)⟩)
  have hkn : k ≤ 1048576 := by omega
  have hxl : xs.length ≤ 1048576 := by omega
  have hs3' : w2.heap.size + 1 ≤ W3.heap.size := by omega
  clear hs3
  clear bw3 qx5 HRd HBy2 HQ2 HQ3 HO HBW
  go_upto_region 3 with fail
  rw [← hW3]
  clear hW3
  go_cut [6, 7] (fun p o wx => ∃ (b : Option Addr) (ys : List Int) (d : Nat) (mm : Int) (X : Nat) (ok : Bool), p = .pointer (some ⟨X, 0, none⟩) ∧ o = .bool ok ∧ ys.length ≤ 9 ∧ FF w 300 w2.heap.size X (k0 : Int) mm a2 b xs ys c2 d a k cap wx)
  case first =>
    have x0 := H3.out.x50
    have x1 := H3.out.x51
    have Hd := Lib.hid H3.out.drew
    have Ha := Lib.hid (H3.out.alloc (.cells #[.int .i64 0, .slice none 0 0] 25)).drew
    have x0a := Ha.out.x50
    have x1a := Ha.out.x51
    have HN : Hid (HasBlk (W3.alloc (.cells #[.int .i64 0, .slice none 0 0] 25)).drew W3.heap.size #[.int .i64 0, .slice none 0 0] 25) := Lib.hid (alloc_new W3 _)
    go_region_with (first
      | (go_at_call 51; refine (namesD_any (w.heap.size + 1 + 1) a k cap 200 k0 _ Hd.out.ds Hd.out.bys Hd.out.ltR hkn (by omega) (by omega) (by omega)).mono ?_; rintro e w4 ⟨pa, ps, pc, rfl, hpl, hop, D4⟩; have hp6 : ps.length ≤ 1048576 := (by omega); have H4 := Hd.out.read D4; have x0 := H4.x50; have x1 := H4.x51; have x0c := (H4.alloc (.cells #[.int .i64 0, .slice none 0 0] 25)).x50; have x1c := (H4.alloc (.cells #[.int .i64 0, .slice none 0 0] 25)).x51; have hs4 : w2.heap.size + 1 ≤ w4.heap.size := H4.lt; clear hpl)
      | (go_at_call 51; refine (namesD_any (w.heap.size + 1 + 1) a k cap 200 k0 _ Ha.out.ds Ha.out.bys Ha.out.ltR hkn (by omega) (by omega) (by omega)).mono ?_; rintro e w4 ⟨pa, ps, pc, rfl, hpl, hop, D4⟩; have hp6 : ps.length ≤ 1048576 := (by omega); have H4 := Ha.out.read D4; have hs4b : W3.heap.size + 1 ≤ w4.heap.size := (by have := D4.gr.size; simpa using this); have x0 := H4.x50; have x1 := H4.x51; have hs4 : w2.heap.size + 1 ≤ w4.heap.size := H4.lt; have hn4 := HasBlk.kept HN.out D4.gr (fun e => by injection e; omega); have fz0 := blk_frozen hn4 0; have fz1 := blk_frozen hn4 1; have cz0 := blk_cell hn4 0; have cz1 := blk_cell hn4 1; have hn5 := Lib.hid hn4; clear hpl hn4)
      | (go_at_call 22; refine (specNamed_any (k0 : Int) a2 pa c2 pc xs ps w4 H4.f.ints (own_ints hop) hxl hp6).mono ?_; rintro e w5 ⟨a5, c5, rfl, ho5, hb5⟩; have H5 := H4.step hb5; try have hn6 := (hb5.block _ (lt_of_some hn5.out)).trans hn5.out; try have fz0 := blk_frozen (show HasBlk w5 W3.heap.size #[.int .i64 0, .slice none 0 0] 25 from hn6) 0; try have fz1 := blk_frozen (show HasBlk w5 W3.heap.size #[.int .i64 0, .slice none 0 0] 25 from hn6) 1; try have cz0 := blk_cell (show HasBlk w5 W3.heap.size #[.int .i64 0, .slice none 0 0] 25 from hn6) 0; try have cz1 := blk_cell (show HasBlk w5 W3.heap.size #[.int .i64 0, .slice none 0 0] 25 from hn6) 1)
      | (go_at_call 22; refine (specNamed_any (k0 : Int) a2 pa c2 pc xs ps (w4.alloc (.cells #[.int .i64 0, .slice none 0 0] 25)) (H4.alloc _).f.ints ((own_ints hop).step (below1 w4 _)) hxl hp6).mono ?_; rintro e w5 ⟨a5, c5, rfl, ho5, hb5⟩; have H5 := (H4.alloc (.cells #[.int .i64 0, .slice none 0 0] 25)).step hb5; have hn6 : HasBlk w5 w4.heap.size #[.int .i64 0, .slice none 0 0] 25 := (hb5.block _ (by simp)).trans (alloc_new w4 _); have fz0 := blk_frozen hn6 0; have fz1 := blk_frozen hn6 1; have cz0 := blk_cell hn6 0; have cz1 := blk_cell hn6 1))
    all_goals
      go_wp2_with fail
      go_meet
      have hyl : (namZ (k0 : Int) xs ps).length ≤ 9 := by
        unfold namZ
        split
        · rw [List.length_map]; omega
        · simp
      first
        | exact ⟨a5, _, c5, _, _, _, rfl, rfl, hyl, ff_new H5 (by omega) ho5⟩
        | exact ⟨a5, _, c5, _, _, _, rfl, rfl, hyl, ff_set H5 (by omega) (by simp) ho5 hn6⟩
        | exact ⟨a5, _, c5, _, _, _, rfl, rfl, hyl, ff_set H5 (by omega) (by omega) ho5 hn6⟩
  case rest =>
    obtain ⟨b, ys, d, mm, X, ok, rfl, rfl, hyl, hff⟩ := hcut
    have HF := Lib.hid hff
    clear hff
    go_upto_region 4 with fail
    go_cut [28] (fun v wx => ∃ t : Bool, v = .bool t ∧ FF w 400 w2.heap.size X (k0 : Int) mm a2 b xs ys c2 d a k cap wx)
    case first =>
      cases ok
      · go_wp2_with fail
        go_meet
        exact ⟨true, rfl, HF.out.more (by omega)⟩
      · go_wp2_with fail
        refine (pickX HF.out.z.ds HF.out.z.bys HF.out.z.ltR hkn (by omega) _).mono ?_
        rintro e w8 ⟨r8, rfl, -, D8, g8⟩
        have H8 := Lib.hid (HF.out.read D8)
        clear D8 g8
        go_wp2_with fail
        go_meet
        exact ⟨_, rfl, H8.out.more (by omega)⟩
    case rest =>
      obtain ⟨t, rfl, hff⟩ := hcut
      have HG := Lib.hid hff
      clear hff HF
      cases t
      · by_cases hl1 : 1 < ys.length
        · have hl1I : (1 : Int) < (ys.length : Int) := by omega
          have x61 := (blk_cell HG.out.x6 1).trans (cell2_1 _ _)
          obtain ⟨lo, hi, hx, hlo, hX⟩ := HG.out.g
          obtain ⟨gb, rfl, hgB, hgs⟩ := OwnN.addr hx.own (by omega)
          have hgr := hx.rng gb rfl
          have c0 : wc.cell? ⟨gb, 0, none⟩ = some (.int .i64 (ys[0]?.getD 0)) := by
            rw [World.ownsRow.cellAt hx.own 0 (by simp; omega), List.getElem?_map, List.getElem?_eq_getElem (by omega)]; rfl
          have c1 : wc.cell? ⟨gb, 1, none⟩ = some (.int .i64 (ys[1]?.getD 0)) := by
            rw [World.ownsRow.cellAt hx.own 1 (by simp; omega), List.getElem?_map, List.getElem?_eq_getElem (by omega)]; rfl
          have fz0 := World.ownsRow.frozenAt hx.own 0
          have fz1 := World.ownsRow.frozenAt hx.own 1
          obtain ⟨y0, hy0⟩ : ∃ y0, y0 = ys[0]?.getD 0 := ⟨_, rfl⟩
          obtain ⟨y1, hy1⟩ : ∃ y1, y1 = ys[1]?.getD 0 := ⟨_, rfl⟩
          rw [← hy0] at c0
          rw [← hy1] at c1
          clear hy0 hy1
          have n0 : X ≠ gb := by omega
          have hxn : XO lo hi (some ⟨gb, 0, none⟩) ys.length d ((ys.set 0 y1).set 1 y0) (((wc.setCell ⟨gb, 0, none⟩ (.int .i64 y1)).setCell ⟨gb, 1, none⟩ (.int .i64 y0)).drew) := by
            have h1 := World.ownsRow.stored hx.own 0 (.int .i64 y1)
            have h2 := World.ownsRow.stored h1.1 1 (.int .i64 y0)
            have h3 := h2.1
            rw [← List.map_set, ← List.map_set] at h3
            exact ⟨h3, hx.rng, by have := hx.size; simpa using this⟩
          have hgw : wc.grownBy (((wc.setCell ⟨gb, 0, none⟩ (.int .i64 y1)).setCell ⟨gb, 1, none⟩ (.int .i64 y0)).drew) (some gb) := grow_drew (only_setCell (p := ⟨gb, 1, none⟩) (only_setCell (p := ⟨gb, 0, none⟩) (World.grownBy.refl _ _) rfl (.int .i64 y1)) rfl _)
          have hll : ((ys.set 0 y1).set 1 y0).length = ys.length := by simp
          obtain ⟨zs, hzs⟩ : ∃ zs, zs = (ys.set 0 y1).set 1 y0 := ⟨_, rfl⟩
          rw [← hzs] at hll hxn
          have HVV : Hid (FF w 400 w2.heap.size X (k0 : Int) mm a2 (some ⟨gb, 0, none⟩) xs zs c2 d a k cap (((wc.setCell ⟨gb, 0, none⟩ (.int .i64 y1)).setCell ⟨gb, 1, none⟩ (.int .i64 y0)).drew)) := Lib.hid
            ⟨HG.out.z.more hgw (fun g e => by injection e; omega), by rw [hll]; exact HG.out.x6.kept hgw (fun e => by injection e; omega), HG.out.lt, lo, hi, by rw [hll]; exact hxn, hlo, hX⟩
          have hzl : zs.length ≤ 9 := by omega
          have HLL := Lib.hid hll
          clear hll hzs hgw hxn hx
          go_wp2
          go_region
          go_wp2
          obtain ⟨V, hV⟩ : ∃ V, V = ((wc.setCell ⟨gb, 0, none⟩ (.int .i64 y1)).setCell ⟨gb, 1, none⟩ (.int .i64 y0)).drew := ⟨_, rfl⟩
          rw [← hV] at HVV
          rw [← hV]
          have HVW := Lib.hid hV
          clear c0 c1 fz0 fz1 n0 x61 hl1I HG hV
          rw [← HLL.out]
          have x0 := HVV.out.z.x50
          have x1 := HVV.out.z.x51
          have x60 := (blk_cell HVV.out.x6 0).trans (cell2_0 _ _)
          have x61 := (blk_cell HVV.out.x6 1).trans (cell2_1 _ _)
          have d0 := (blk_cell HVV.out.z.r2 0).trans (cell2_0 _ _)
          have d1 := (blk_cell HVV.out.z.r2 1).trans (cell2_1 _ _)
          have f0 := blk_frozen HVV.out.z.r2 0
          have f1 := blk_frozen HVV.out.z.r2 1
          have e0 := (blk_cell HVV.out.z.r3 0).trans (cell2_0 _ _)
          have e1 := (blk_cell HVV.out.z.r3 1).trans (cell2_1 _ _)
          have g0 := blk_frozen HVV.out.z.r3 0
          have g1 := blk_frozen HVV.out.z.r3 1
          have n1 : X ≠ w.heap.size := by have := HVV.out.lt; omega
          have n2 : X ≠ w.heap.size + 1 := by have := HVV.out.lt; omega
          have n3 : w2.heap.size ≠ w.heap.size := by omega
          have n4 : w2.heap.size ≠ w.heap.size + 1 := by omega
          go_region
          all_goals
            go_wp2
            refine bodyPost_ret (v := .tuple #[.agg #[.int .i64 (k0 : Int), .slice a2 xs.length c2], .agg #[.int .i64 mm, .slice (some ⟨gb, 0, none⟩) zs.length d]]) (by simp [results, Tryd.results27, go_sem, d0, d1, e0, e1]) rfl ?_
            obtain ⟨lo, hi, hx, hlo, hX⟩ := HVV.out.g
            have hf := HVV.out.z.f
            have hbl := HVV.out.z.bel
            refine ⟨(k0 : Int), a2, xs, c2, mm, (some ⟨gb, 0, none⟩), zs, d, rfl, ⟨by omega, hzl⟩, ?_, ?_, ?_⟩
            · first
                | exact XO.ints ((((hf.set _ _ (by simp)).set _ _ (by simp)).set _ _ (by simp; omega)).set _ _ (by simp; omega)).drew
                | exact XO.ints ((((hf.set _ _ (.inl (by simp <;> omega))).set _ _ (.inl (by simp <;> omega))).set _ _ (.inl (by simp <;> omega))).set _ _ (.inl (by simp <;> omega))).drew
                | exact XO.ints ((((hf.set _ _ (.inl (by simp <;> omega))).set _ _ (.inl (by simp <;> omega))).set _ _ (.inl (by simp <;> omega))).set _ _ (.inl (by simp <;> omega)))
            · first
                | exact XO.ints ((((hx.set _ _ (.inl (by simp <;> omega))).set _ _ (.inl (by simp <;> omega))).set _ _ (.inl (by simp <;> omega))).set _ _ (.inl (by simp <;> omega))).drew
                | exact XO.ints ((((hx.set _ _ (.inl (by simp <;> omega))).set _ _ (.inl (by simp <;> omega))).set _ _ (.inl (by simp <;> omega))).set _ _ (.inl (by simp <;> omega)))
            · first
                | exact ((((hbl.setCell (by simp) _).setCell (by simp) _).setCell (by simp) _).setCell (by simp) _).drew
                | exact (((hbl.setCell (by simp) _).setCell (by simp) _).setCell (by simp) _).setCell (by simp) _
        · have hl1I : ¬ ((1 : Int) < (ys.length : Int)) := by omega
          have x61 := (blk_cell HG.out.x6 1).trans (cell2_1 _ _)
          go_wp2
          clear x61 hl1I
          have x0 := HG.out.z.x50
          have x1 := HG.out.z.x51
          have x60 := (blk_cell HG.out.x6 0).trans (cell2_0 _ _)
          have x61 := (blk_cell HG.out.x6 1).trans (cell2_1 _ _)
          have d0 := (blk_cell HG.out.z.r2 0).trans (cell2_0 _ _)
          have d1 := (blk_cell HG.out.z.r2 1).trans (cell2_1 _ _)
          have f0 := blk_frozen HG.out.z.r2 0
          have f1 := blk_frozen HG.out.z.r2 1
          have e0 := (blk_cell HG.out.z.r3 0).trans (cell2_0 _ _)
          have e1 := (blk_cell HG.out.z.r3 1).trans (cell2_1 _ _)
          have g0 := blk_frozen HG.out.z.r3 0
          have g1 := blk_frozen HG.out.z.r3 1
          have n1 : X ≠ w.heap.size := by have := HG.out.lt; omega
          have n2 : X ≠ w.heap.size + 1 := by have := HG.out.lt; omega
          have n3 : w2.heap.size ≠ w.heap.size := by omega
          have n4 : w2.heap.size ≠ w.heap.size + 1 := by omega
          go_region
          all_goals
            go_wp2
            refine bodyPost_ret (v := .tuple #[.agg #[.int .i64 (k0 : Int), .slice a2 xs.length c2], .agg #[.int .i64 mm, .slice b ys.length d]]) (by simp [results, Tryd.results27, go_sem, d0, d1, e0, e1]) rfl ?_
            obtain ⟨lo, hi, hx, hlo, hX⟩ := HG.out.g
            have hf := HG.out.z.f
            have hbl := HG.out.z.bel
            refine ⟨(k0 : Int), a2, xs, c2, mm, b, ys, d, rfl, ⟨by omega, hyl⟩, ?_, ?_, ?_⟩
            · first
                | exact XO.ints ((((hf.set _ _ (by simp)).set _ _ (by simp)).set _ _ (by simp; omega)).set _ _ (by simp; omega)).drew
                | exact XO.ints ((((hf.set _ _ (.inl (by simp <;> omega))).set _ _ (.inl (by simp <;> omega))).set _ _ (.inl (by simp <;> omega))).set _ _ (.inl (by simp <;> omega))).drew
                | exact XO.ints ((((hf.set _ _ (.inl (by simp <;> omega))).set _ _ (.inl (by simp <;> omega))).set _ _ (.inl (by simp <;> omega))).set _ _ (.inl (by simp <;> omega)))
            · first
                | exact XO.ints ((((hx.set _ _ (.inl (by simp <;> omega))).set _ _ (.inl (by simp <;> omega))).set _ _ (.inl (by simp <;> omega))).set _ _ (.inl (by simp <;> omega))).drew
                | exact XO.ints ((((hx.set _ _ (.inl (by simp <;> omega))).set _ _ (.inl (by simp <;> omega))).set _ _ (.inl (by simp <;> omega))).set _ _ (.inl (by simp <;> omega)))
            · first
                | exact ((((hbl.setCell (by simp) _).setCell (by simp) _).setCell (by simp) _).setCell (by simp) _).drew
                | exact (((hbl.setCell (by simp) _).setCell (by simp) _).setCell (by simp) _).setCell (by simp) _
      · have x0 := HG.out.z.x50
        have x1 := HG.out.z.x51
        have Hd := Lib.hid HG.out.z.drew
        go_wp2
        go_region_with (go_at_call 64; refine (clubsD_any (w.heap.size + 1 + 1) a k cap 400 k0 5 _ Hd.out.ds Hd.out.bys Hd.out.ltR hkn (by omega) (by omega) (by omega) (by omega)).mono ?_; rintro e w9 ⟨b9, zs9, c9, rfl, hl9, ho9, D9⟩; have H9 := Hd.out.read D9; have x0 := H9.x50; have x1 := H9.x51; have d0 := (blk_cell H9.r2 0).trans (cell2_0 _ _); have d1 := (blk_cell H9.r2 1).trans (cell2_1 _ _); have f0 := blk_frozen H9.r2 0; have f1 := blk_frozen H9.r2 1; have e0 := (blk_cell H9.r3 0).trans (cell2_0 _ _); have e1 := (blk_cell H9.r3 1).trans (cell2_1 _ _); have g0 := blk_frozen H9.r3 0; have g1 := blk_frozen H9.r3 1)
        all_goals
          go_wp2
          refine bodyPost_ret (v := .tuple #[.agg #[.int .i64 (k0 : Int), .slice a2 xs.length c2], .agg #[.int .i64 (k0 : Int), .slice b9 zs9.length c9]]) (by simp [results, Tryd.results27, go_sem, d0, d1, e0, e1]) rfl ?_
          have hf := H9.f
          have hbl := H9.bel
          have hlo9 : w2.heap.size < wc.heap.size := HG.out.z.lt
          have hx := XO.start ho9
          refine ⟨(k0 : Int), a2, xs, c2, (k0 : Int), b9, zs9, c9, rfl, ⟨by omega, by omega⟩, ?_, ?_, ?_⟩
          · first
              | exact XO.ints ((((hf.set _ _ (.inl (by simp <;> omega))).set _ _ (.inl (by simp <;> omega))).set _ _ (.inl (by simp <;> omega))).set _ _ (.inl (by simp <;> omega))).drew
              | exact XO.ints ((((hf.set _ _ (.inl (by simp <;> omega))).set _ _ (.inl (by simp <;> omega))).set _ _ (.inl (by simp <;> omega))).set _ _ (.inl (by simp <;> omega)))
          · first
              | exact XO.ints ((((hx.set _ _ (.inl (by simp <;> omega))).set _ _ (.inl (by simp <;> omega))).set _ _ (.inl (by simp <;> omega))).set _ _ (.inl (by simp <;> omega))).drew
              | exact XO.ints ((((hx.set _ _ (.inl (by simp <;> omega))).set _ _ (.inl (by simp <;> omega))).set _ _ (.inl (by simp <;> omega))).set _ _ (.inl (by simp <;> omega)))
          · first
              | exact ((((hbl.setCell (by simp) _).setCell (by simp) _).setCell (by simp) _).setCell (by simp) _).drew
              | exact (((hbl.setCell (by simp) _).setCell (by simp) _).setCell (by simp) _).setCell (by simp) _

end Go.Proofs.YtgpgocijacgkhaaDoor
