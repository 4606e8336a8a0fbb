/- It is proved what ColourUneven of the reference model returns; conditions: those of each statement. -/
import Derived.RowKit
import Derived.Laws.CopyRow
import Derived.Lib.SlBuf
import Derived.Deep.QuietTactic
import Derived.RangeFuncNested
import Derived.RangeFuncBound
import Derived.RangeFuncCalls
import Derived.RangeFuncLeaves
import Derived.RangeFuncBox
import Derived.RangeFuncWrites
import Derived.StillTailTactics
import Derived.Maps.OwnIn
import Derived.Maps.Ext
import Derived.DeepKeys4
import Derived.MapKept
import Derived.Test.YtckbhhaigpajpaaDoorRows
import Derived.WalkKit
import Derived.WalkSpells
import Derived.ProofKit
import Derived.OpenShut
import Derived.ShutString
import Derived.ChangeOld
import Derived.Below
import Derived.Deep.RegionHeld3
import Derived.BigQuiet
import Derived.Lib.Hide
import Derived.Lib.SmallJoins
import Derived.Outline
import Derived.Laws.MakeOwn
import Derived.Laws.OwnMore
import Derived.IntWalk
import Derived.Maps.AppendAt
import Derived.Deep.RegionLaw
import Derived.Deep.AppendLies
import Derived.Lib.AppendZeros
import Derived.OwnWalk
import Derived.Lib.SlicesCompact
import Derived.Lib.OwnBridge
import Derived.OrdersIn
import Derived.TacticsIn
import Derived.Shelf.Sort.Plain
import Derived.Shelf.Slices.In.SortNone
import Derived.Shelf.Slices.CompactI
import Derived.Ground.Names2Prog
import Derived.Lib.SliceRun
import Derived.Shelf.RegionOpen
import Derived.Shelf.Abstract
import Derived.OwnWalkIn
import Derived.TacticsInMore
import Derived.LoopNIn
import Derived.LoopIn
import Derived.StillTail
import Derived.StillTactics
import Derived.Shelf.Spec.TrailingZeros
import Derived.Deep.LoopGhost
import Derived.Test.YtckbhhaigpajpaaDoorRaaa
import Derived.Test.YtckbhhaigpajpaaDoorRaab
import Derived.Test.YtckbhhaigpajpaaDoorRaax
import Derived.Test.YtckbhhaigpajpaaDoorRaad
import Derived.Test.YtckbhhaigpajpaaDoorRaaf
import Derived.Test.YtckbhhaigpajpaaDoorRaal
import Derived.Test.YtckbhhaigpajpaaDoorRaaq
import Derived.Test.YtckbhhaigpajpaaDoorRaau
import Derived.Test.YtckbhhaigpajpaaDoorRaag
import Derived.Test.YtckbhhaigpajpaaDoorWr
import Derived.Test.YtckbhhaigpajpaaDoorRaas
import Derived.Test.YtckbhhaigpajpaaDoorRaac
namespace Go.Proofs.YtckbhhaigpajpaaDoor
open Go.RowKit

set_option maxRecDepth 100000 in
theorem an63_fin : ∀ z : Fin 64, ∀ s : Fin 64, bits BinOp.andNot IntKind.i64 (z.val : Int) (s.val : Int) = ((z.val &&& (63 - s.val) : Nat) : Int) := by decide +kernel

theorem an63 {z s : Nat} (hz : z < 64) (hs : s < 64) : bits BinOp.andNot IntKind.i64 (z : Int) (s : Int) = ((z &&& (63 - s) : Nat) : Int) := an63_fin ⟨z, hz⟩ ⟨s, hs⟩
set_option maxRecDepth 100000 in
set_option maxHeartbeats 4000000 in
theorem specColourUneven_any (m : Int) (a : Option Addr) (c : Nat) (zs : List Int) (w : World) (ha : Ints w w.heap.size a zs) (hx : zs.length ≤ 1048576) :
    Calls Tryd.prog 17 #[.agg #[.int .i64 m, .slice a zs.length c]] w (RetIB w (outCU m zs) (famIn m zs)) := by
  have HB0 := Lib.hid (below1 w (.cells #[.int .i64 m, .slice a zs.length c] 25))
  have HA := Lib.hid (ha.below HB0.out)
  have HA0 := Lib.hid ha
  clear ha
  cases hf : famIn m zs
  · have HF := Lib.hid hf
    have HZ : Hid (outCU m zs = 0) := Lib.hid (by unfold outCU; rw [hf]; rfl)
    clear hf
    go_enter Tryd.func17, Tryd.ntmps17
    go_wp2_with fail
    refine (specFamilyIn_any _ _ _ zs _ (HA.out.mono (by simp)) hx).mono ?_
    rintro e w1 ⟨rfl, hb⟩
    rw [HF.out]
    have HB := Lib.hid (HB0.out.trans (hb.mono (by simp)))
    clear hb
    go_wp2
    go_ret2
    exact ⟨by rw [HZ.out]; rfl, HB.out⟩
  · have HF := Lib.hid hf
    obtain ⟨k, rfl, hk1, hk6, hset, hl8⟩ := fam_nat2 hf
    obtain ⟨N, hN⟩ : ∃ N, N = 2 ^ k := ⟨_, rfl⟩
    have hN64 : N ≤ 64 := by rw [hN]; exact Nat.pow_le_pow_right (n := 2) (by decide) hk6
    have hN1 : 1 ≤ N := by rw [hN]; exact Nat.one_le_two_pow
    have hfull : fullI (k : Int) = ((N - 1 : Nat) : Int) := by rw [hN]; exact fullK k hk1 hk6
    have HFU := Lib.hid hfull
    have HZ : Hid (outCU (k : Int) zs = minS k zs N) := Lib.hid (by unfold outCU; rw [hf, hN]; rfl)
    have HZ64 : Hid (∀ z ∈ zs, 0 ≤ z ∧ z.toNat < 64) := Lib.hid (fun z h => ⟨(hset z h).1, p64 hk6 (hset z h).2⟩)
    have HZT : Hid (∀ t, ∀ z ∈ zs.take t, z.toNat < 64) := Lib.hid (fun t z h => p64 hk6 (hset z (List.mem_of_mem_take h)).2)
    have hm1I : (1 : Int) ≤ (k : Int) := by omega
    have hm6I : (k : Int) ≤ 6 := by omega
    clear hf hset hfull hN
    go_enter Tryd.func17, Tryd.ntmps17
    go_wp2_with fail
    refine (specFamilyIn_any _ _ _ zs _ (HA.out.mono (by simp)) hx).mono ?_
    rintro e w1 ⟨rfl, hb⟩
    rw [HF.out]
    have hbk : HasBlk w1 w.heap.size #[.int .i64 (k : Int), .slice a zs.length c] 25 := (hb.block _ (by simp)).trans (alloc_new w _)
    have HBK := Lib.hid hbk
    have HB1 := Lib.hid (HB0.out.trans (hb.mono (by simp)))
    have x0 := (blk_cell hbk 0).trans (cell2_0 _ _)
    have x1 := (blk_cell hbk 1).trans (cell2_1 _ _)
    clear hb hbk
    go_wp2
    clear x0 x1
    go_loopw [4, 5] (fun b i wr => ∃ j : Nat, j ≤ N ∧ i = .int .i64 (j : Int) ∧ b = .int .i64 (minS k zs j) ∧ Below w1.heap.size w1 wr) (fun _ i _ => N - (intOf i).toNat)
    case atStart => exact ⟨0, Nat.zero_le _, rfl, rfl, Below.refl _ _⟩
    case round =>
      obtain ⟨j, hj, rfl, rfl, hbr⟩ := hrel
      obtain ⟨wo, rfl⟩ : ∃ wo, wo = wr := ⟨wr, rfl⟩
      have HBR := Lib.hid hbr
      have hq := (hbr.block _ (lt_of_some HBK.out)).trans HBK.out
      have x0 := (blk_cell hq 0).trans (cell2_0 _ _)
      have x1 := (blk_cell hq 1).trans (cell2_1 _ _)
      have hwo : w.heap.size < wo.heap.size := lt_of_some hq
      have HAL := Lib.hid (l1All_b (k : Int) a zs.length c wo hm1I hm6I)
      have hj0 : (0 : Int) ≤ (j : Int) := by omega
      have hMB := minS_bound (m := k) (fun z h => (HZ64.out z h).2) j
      obtain ⟨M, hM⟩ : ∃ M, M = minS k zs j := ⟨_, rfl⟩
      have HM := Lib.hid hM
      rw [← hM] at hMB ⊢
      obtain ⟨hM0, hM6⟩ := hMB
      clear hbr hq hM
      by_cases hlt : j < N
      · have hjN : (j : Int) ≤ ((N - 1 : Nat) : Int) := by omega
        have hj64 : j < 64 := by omega
        go_wp2_with fail
        refine HAL.out.mono ?_
        rintro e w2 ⟨rfl, hb2⟩
        rw [HFU.out]
        have HB2 := Lib.hid (HBR.out.trans (hb2.mono HBR.out.size))
        clear hb2 x0 x1
        go_wp2
        go_loopw [6, 7] (fun b i wr => ∃ t : Nat, t ≤ zs.length ∧ i = .int .i64 (t : Int) ∧ b = .int .i64 (unvS j (zs.take t)) ∧ Below w1.heap.size w1 wr) (fun _ i _ => zs.length - (intOf i).toNat)
        case atStart => exact ⟨0, Nat.zero_le _, rfl, rfl, HB2.out⟩
        case round =>
          obtain ⟨t, ht, rfl, rfl, hbr⟩ := hrel
          have HBR2 := Lib.hid hbr
          have HB3 := Lib.hid hbr.drew
          have hq := (hbr.block _ (lt_of_some HBK.out)).trans HBK.out
          have x0 := (blk_cell hq 0).trans (cell2_0 _ _)
          have x1 := (blk_cell hq 1).trans (cell2_1 _ _)
          have ht0 : (0 : Int) ≤ (t : Int) := by omega
          have ht20 : (t : Int) ≤ 64 := by omega
          have hUB := unvS_bound (s := j) (HZT.out t)
          obtain ⟨U, hU⟩ : ∃ U, U = unvS j (zs.take t) := ⟨_, rfl⟩
          have HU := Lib.hid hU
          rw [← hU] at hUB ⊢
          obtain ⟨hU0, hU8⟩ := hUB
          clear hq hU
          by_cases hlt2 : t < zs.length
          · have htI : (t : Int) < (zs.length : Int) := by omega
            obtain ⟨b1, o1, rfl, hb1, hc1⟩ := HA0.out.at_ (k := t) hlt2
            obtain ⟨z0, z1⟩ := HZ64.out _ (at_in (k := t) hlt2)
            obtain ⟨z, hzz⟩ : ∃ z : Nat, zs[t]?.getD 0 = (z : Int) := ⟨(zs[t]?.getD 0).toNat, by omega⟩
            rw [hzz, Int.toNat_natCast] at z1
            rw [hzz] at hc1
            have cc1 := (hbr.cell (p := ⟨b1, o1 + t, none⟩) (show b1 < w1.heap.size by have := HB1.out.size; omega)).trans ((HB1.out.cell (p := ⟨b1, o1 + t, none⟩) hb1).trans hc1)
            have hUS : unvS j (zs.take (t + 1)) = max (unvS j (zs.take t)) (max (difN j z) (0 - difN j z)) := by
              rw [List.take_succ_eq_append_getElem hlt2, unvS_snoc]
              have : zs[t] = (z : Int) := by rw [← hzz, List.getElem?_eq_getElem hlt2]; rfl
              rw [this, Int.toNat_natCast]
            rw [← HU.out] at hUS
            have hand := and6_at z j z1 hj64
            have hann := an63 z1 hj64
            have HS1 := Lib.hid (fun W => l1SizeW_any (z &&& j) W (by have : z &&& j ≤ z := Nat.and_le_left; omega))
            have HS2 := Lib.hid (fun W => l1SizeW_any (z &&& (63 - j)) W (by have : z &&& (63 - j) ≤ z := Nat.and_le_left; omega))
            have hK1 : cntK 8 (z &&& j) ≤ 8 := memK_len 8 _
            have hK2 : cntK 8 (z &&& (63 - j)) ≤ 8 := memK_len 8 _
            unfold difN at hUS
            obtain ⟨K1, hk1'⟩ : ∃ K1, K1 = cntK 8 (z &&& j) := ⟨_, rfl⟩
            obtain ⟨K2, hk2'⟩ : ∃ K2, K2 = cntK 8 (z &&& (63 - j)) := ⟨_, rfl⟩
            rw [← hk1'] at HS1 hK1 hUS
            rw [← hk2'] at HS2 hK2 hUS
            have HUS := Lib.hid hUS
            have hK1I : (K1 : Int) ≤ 8 := by omega
            have hK2I : (K2 : Int) ≤ 8 := by omega
            have hK1J : (0 : Int) ≤ (K1 : Int) := by omega
            have hK2J : (0 : Int) ≤ (K2 : Int) := by omega
            clear hUS hk1' hk2' hzz z0 hc1 hb1 hbr
            go_wp2
            go_region_held3 (fun w' => w'.cell? ⟨w.heap.size, 1, none⟩ = some (.slice (some ⟨b1, o1, none⟩) zs.length c) ∧ w'.cell? ⟨b1, o1 + t, none⟩ = some (.int .i64 (z : Int)) ∧ w' = wr.drew) (exact ⟨x1, cc1, rfl⟩)
              (first
                | (go_at_call 47; with_reducible refine (HS1.out _).mono ?_; rintro e w4 ⟨rfl, rfl⟩)
                | (go_at_call 47; with_reducible refine (HS2.out _).mono ?_; rintro e w5 ⟨rfl, rfl⟩))
            rename_i hHeldX
            clear hHeldX x0 x1 cc1 hand hann
            go_wp2
            go_roundw
            case rel => exact ⟨t + 1, by omega, by go_num, by rw [HUS.out]; first | rfl | (congr 1; omega), HB3.out⟩
            case measure => simp [intOf]; omega
          · obtain rfl : t = zs.length := by omega
            have hI : ¬ ((zs.length : Int) < (zs.length : Int)) := by omega
            rw [List.take_length] at HU
            have HMS : Hid (minS k zs (j + 1) = min M U) := Lib.hid (by rw [minS_succ, ← HM.out, ← HU.out])
            clear hbr
            go_wp2
            go_roundw
            case rel => exact ⟨j + 1, by omega, by go_num, by rw [HMS.out], HBR2.out⟩
            case measure => simp [intOf]; omega
      · obtain rfl : j = N := by omega
        have hjN : (((j - 1 : Nat) : Int)) < (j : Int) := by omega
        go_wp2_with fail
        refine HAL.out.mono ?_
        rintro e w2 ⟨rfl, hb2⟩
        rw [HFU.out]
        have HB2 := Lib.hid (HB1.out.trans ((HBR.out.trans (hb2.mono HBR.out.size)).mono HB1.out.size))
        clear hb2
        go_wp2
        go_ret2
        exact ⟨by rw [HZ.out, ← HM.out]; rfl, HB2.out⟩

end Go.Proofs.YtckbhhaigpajpaaDoor

/- It is proved how boxed families keep what they hold while the laws go on; conditions: those of each statement. -/
namespace Go.Proofs.YtckbhhaigpajpaaDoor
open Go.RowKit

/-- A family in a box of the call's own: block X; its list lies in a block of lo, .., hi - 1, below X. -/
structure XB (X lo hi : Nat) (m : Int) (a : Option Addr) (n cap : Nat) (zs : List Int) (W : World) : Prop where
  x0 : W.cell? ⟨X, 0, none⟩ = some (.int .i64 m)
  x1 : W.cell? ⟨X, 1, none⟩ = some (.slice a n cap)
  own : OwnN W lo a n cap zs
  rng : ∀ g, (Value.slice a n cap).ownBlock = some g → lo ≤ g ∧ g < hi
  hiX : hi ≤ X
  size : X < W.heap.size

theorem XB.len {X lo hi : Nat} {m : Int} {a : Option Addr} {n cap : Nat} {zs : List Int} {W : World} (h : XB X lo hi m a n cap zs W) : zs.length = n := by
  have := h.own.1; simpa using this

theorem XB.ints {X lo hi : Nat} {m : Int} {a : Option Addr} {n cap : Nat} {zs : List Int} {W : World} (h : XB X lo hi m a n cap zs W) : Ints W W.heap.size a zs := by
  have h1 := h.own
  have hl := h.len
  subst hl
  exact own_ints (n := zs.length) (cap := cap) (B := lo) h1

/-- What keeps all blocks but row's keeps the box, if row's block is none of it. -/
theorem XB.kept {X lo hi : Nat} {m : Int} {a : Option Addr} {n cap : Nat} {zs : List Int} {W W' : World} {row : Option Nat} (h : XB X lo hi m a n cap zs W) (hg : W.grownBy W' row)
    (hr : ∀ g, row = some g → (g < lo ∨ hi ≤ g) ∧ g ≠ X) : XB X lo hi m a n cap zs W' := by
  have hX : ∀ o, W'.cell? ⟨X, o, none⟩ = W.cell? ⟨X, o, none⟩ := fun o =>
    World.cell?_of_block (a := ⟨X, o, none⟩) (hg.block X h.size (fun e => (hr X e.symm).2 rfl))
  refine ⟨(hX 0).trans h.x0, (hX 1).trans h.x1, World.ownsRow.kept h.own hg ?_, h.rng, h.hiX, Nat.lt_of_lt_of_le h.size hg.size⟩
  cases ho : (Value.slice a n cap).ownBlock with
  | none => exact .inl rfl
  | some g =>
    right
    intro e
    have h1 := h.rng g ho
    have h2 := hr g e.symm
    omega

theorem XB.step {X lo hi : Nat} {m : Int} {a : Option Addr} {n cap : Nat} {zs : List Int} {W W' : World} (h : XB X lo hi m a n cap zs W) (hb : Below W.heap.size W W') : XB X lo hi m a n cap zs W' :=
  h.kept (only_of_below hb none) (fun g e => by cases e)

theorem XB.drew {X lo hi : Nat} {m : Int} {a : Option Addr} {n cap : Nat} {zs : List Int} {W : World} (h : XB X lo hi m a n cap zs W) : XB X lo hi m a n cap zs W.drew :=
  ⟨h.x0, h.x1, h.own, h.rng, h.hiX, h.size⟩

/-- Its own list marked. -/
theorem XB.marked {X lo hi : Nat} {m : Int} {a : Option Addr} {n cap : Nat} {zs : List Int} {W W' : World} (h : XB X lo hi m a n cap zs W)
    (ho : OwnI W' lo (.slice a n cap) (marks n)) (hg : W.grownBy W' (Value.slice a n cap).ownBlock) : XB X lo hi m a n cap (marks n) W' := by
  have hX : ∀ o, W'.cell? ⟨X, o, none⟩ = W.cell? ⟨X, o, none⟩ := fun o =>
    World.cell?_of_block (a := ⟨X, o, none⟩) (hg.block X h.size (fun e => by have := h.rng X e.symm; have := h.hiX; omega))
  refine ⟨(hX 0).trans h.x0, (hX 1).trans h.x1, ?_, h.rng, h.hiX, Nat.lt_of_lt_of_le h.size hg.size⟩
  have := ho
  unfold OwnI at this
  rwa [marks_length] at this

/-- It begins: a list of the call's own, boxed. -/
theorem XB.start {w : World} {lo : Nat} {m : Int} {a : Option Addr} {cap : Nat} {zs : List Int} (ho : OwnI w lo (.slice a zs.length cap) zs) :
    XB w.heap.size lo w.heap.size m a zs.length cap zs (w.alloc (.cells #[.int .i64 m, .slice a zs.length cap] 25)) :=
  ⟨blk_cell (alloc_new w _) 0, blk_cell (alloc_new w _) 1, World.ownsRow.alloc ho _, fun g e => World.ownsRow.lt ho g e, Nat.le_refl _, by simp⟩

theorem XB.ownI {X lo hi : Nat} {m : Int} {a : Option Addr} {cap : Nat} {zs : List Int} {W : World} (h : XB X lo hi m a zs.length cap zs W) : OwnI W lo (.slice a zs.length cap) zs := h.own
theorem AF.kept {w : World} {m : Int} {a : Option Addr} {cap : Nat} {zs : List Int} {W W' : World} {row : Option Nat} (h : AF w m a cap zs W) (hg : W.grownBy W' row) (hr : ∀ g, row = some g → w.heap.size + 1 ≤ g) : AF w m a cap zs W' := by
  have hb : Below (w.heap.size + 1) W W' := (Below.refl _ _).grown hg h.size hr
  exact ⟨(hb.cell (p := ⟨w.heap.size, 0, none⟩) (by simp)).trans h.x0, (hb.cell (p := ⟨w.heap.size, 1, none⟩) (by simp)).trans h.x1, h.ints.below (hb.mono (by omega)),
    h.below.trans (hb.mono (by omega)), by have := h.size; have := hg.size; omega⟩

end Go.Proofs.YtckbhhaigpajpaaDoor
