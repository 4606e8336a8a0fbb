/- It is proved when two families are alike, as one value, and that arrays of clubs are compared by their numbers; conditions: those of each statement. -/
import Derived.RowKit
import Derived.Laws.CopyRow
import Derived.Lib.SlBuf
import Derived.Deep.QuietTactic
import Derived.RangeFuncNested
import Derived.RangeFuncBound
import Derived.RangeFuncCalls
import Derived.RangeFuncLeaves
import Derived.RangeFuncBox
import Derived.RangeFuncWrites
import Derived.StillTailTactics
import Derived.Maps.OwnIn
import Derived.Maps.Ext
import Derived.DeepKeys4
import Derived.MapKept
import Derived.Test.YtjclfpcnfmpjdaaDoorRows
import Derived.WalkKit
import Derived.WalkSpells
import Derived.ProofKit
import Derived.OpenShut
import Derived.ShutString
import Derived.ChangeOld
import Derived.Below
import Derived.Deep.RegionHeld3
import Derived.BigQuiet
import Derived.Lib.Hide
import Derived.Lib.SmallJoins
import Derived.Outline
import Derived.Laws.MakeOwn
import Derived.Laws.OwnMore
import Derived.IntWalk
import Derived.Maps.AppendAt
import Derived.Sort.MapsRangeIn
import Derived.Lib.AppendZeros
import Derived.Deep.AppendLies
import Derived.OwnWalk
import Derived.Lib.SlicesCompact
import Derived.Lib.OwnBridge
import Derived.OrdersIn
import Derived.TacticsIn
import Derived.Shelf.Sort.Plain
import Derived.Shelf.Slices.In.SortNone
import Derived.Shelf.Slices.CompactI
import Derived.Ground.Names2Prog
import Derived.Shelf.Abstract
import Derived.Shelf.RegionOpen
import Derived.OwnWalkIn
import Derived.TacticsInMore
import Derived.LoopNIn
import Derived.LoopIn
import Derived.StillTail
import Derived.StillTactics
import Derived.Shelf.Spec.TrailingZeros
import Derived.Test.YtjclfpcnfmpjdaaDoorMsa
import Derived.Test.YtjclfpcnfmpjdaaDoorMsb
import Derived.Test.YtjclfpcnfmpjdaaDoorBv
import Derived.Test.YtjclfpcnfmpjdaaDoorBw
namespace Go.Proofs.YtjclfpcnfmpjdaaDoor
open Go.RowKit Go.Shelf Go.Maps

/-- Two families are alike. -/
def alikeB (m : Int) (zs : List Int) (k : Int) (ys : List Int) : Bool :=
  famIn m zs && (famIn k ys && (decide (m = k) && (decide (zs.length = ys.length) && decide (lstP zs (firstN m.toNat zs) = lstP ys (firstN m.toNat ys)))))

/-- They may be compared. -/
def sizesB (m : Int) (zs : List Int) (k : Int) (ys : List Int) : Bool :=
  famIn m zs && (famIn k ys && (decide (m = k) && decide (zs.length = ys.length)))

theorem alike_eq (m k : Int) (zs ys : List Int) : alikeB m zs k ys = (sizesB m zs k ys && decide (lstP zs (firstN m.toNat zs) = lstP ys (firstN m.toNat ys))) := by
  simp only [alikeB, sizesB, Bool.and_assoc]

theorem alike_no {m k : Int} {zs ys : List Int} (h : sizesB m zs k ys = false) : alikeB m zs k ys = false := by
  rw [alike_eq, h]; rfl

theorem alike_yes {m k : Int} {zs ys : List Int} (h : sizesB m zs k ys = true) : famIn m zs = true ∧ famIn k ys = true ∧ m = k ∧ zs.length = ys.length ∧ alikeB m zs k ys = decide (lstP zs (firstN m.toNat zs) = lstP ys (firstN m.toNat ys)) := by
  have h' := h
  unfold sizesB at h
  simp only [Bool.and_eq_true, decide_eq_true_eq] at h
  obtain ⟨h1, h2, h3, h4⟩ := h
  exact ⟨h1, h2, h3, h4, by rw [alike_eq, h']; rfl⟩

theorem eq_key {L M : List Int} (hL : WfK L) (hM : WfK M) (w : World) : (binOp BinOp.eql 57 (.agg (iv L)) (.agg (iv M))).run Tryd.prog w = .ok (.bool (decide (L = M))) w := by
  obtain ⟨r, hr, hiff⟩ := run_equal_deep (P := Tryd.prog) w (m := 2) (by omega) (k := 57) (by kernel_rfl) (by kernel_rfl) (keyLit_key hL) (keyLit_key hM)
  have hd : r = decide (L = M) := by
    by_cases h : L = M
    · subst h
      rw [decide_eq_true rfl]
      exact hiff.2 rfl
    · rw [decide_eq_false h]
      cases r
      · rfl
      · exact absurd (keyLit_inj hL hM (hiff.1 rfl)) h
  subst hd
  simp [binOp, hr, go_sem]

theorem wfK_first {k : Nat} (hk : k ≤ 6) {zs : List Int} (hf : famIn (k : Int) zs = true) : WfK (keyL zs (nI (firstN k zs))) := by
  obtain ⟨h1, h2, h3, h4⟩ := famIn_out hf
  have hp : firstN k zs ∈ lvlL k k := bestG_in zs (lvlL k k) _ (by have := lvlL_pos hk; omega)
  refine wfK_key hk h3 (fun z hz => ?_) (okp_nI hk (lvlL_in hp) (fun v hv => lvlL_lt hp v hv))
  have h5 := h4 z hz
  have h6 : fullI (k : Int) = ((2 ^ k - 1 : Nat) : Int) := full_nat k
  have h7 : 1 ≤ 2 ^ k := Nat.one_le_two_pow
  omega

theorem lst_eq {zs ys : List Int} {p q : List Nat} (h : zs.length = ys.length) : (keyL zs (nI p) = keyL ys (nI q)) ↔ lstP zs p = lstP ys q := by
  rw [keyL_lst, keyL_lst, h]
  constructor
  · intro e
    exact (List.append_inj e (by rw [lstP_len, lstP_len, h])).1
  · intro e
    rw [e]

end Go.Proofs.YtjclfpcnfmpjdaaDoor
