/- It is proved which colours are mixed and which are proper, and that colours may be exchanged; conditions: those of each statement. -/
import Derived.RowKit
import Derived.Laws.CopyRow
import Derived.Lib.SlBuf
import Derived.Deep.QuietTactic
import Derived.RangeFuncNested
import Derived.RangeFuncBound
import Derived.RangeFuncCalls
import Derived.RangeFuncLeaves
import Derived.RangeFuncBox
import Derived.RangeFuncWrites
import Derived.StillTailTactics
import Derived.Maps.OwnIn
import Derived.Maps.Ext
import Derived.DeepKeys4
import Derived.MapKept
import Derived.Test.YtfhhfilkabjhaaaDoorRows
import Derived.WalkKit
import Derived.WalkSpells
import Derived.ProofKit
import Derived.OpenShut
import Derived.ShutString
import Derived.ChangeOld
import Derived.Below
import Derived.Deep.RegionHeld3
import Derived.BigQuiet
import Derived.Lib.Hide
import Derived.Lib.SmallJoins
import Derived.Outline
import Derived.Laws.MakeOwn
import Derived.Laws.OwnMore
import Derived.IntWalk
import Derived.Lib.AppendZeros
import Derived.Maps.AppendAt
import Derived.Deep.AppendLies
import Derived.OwnWalk
import Derived.Lib.SlicesCompact
import Derived.Lib.OwnBridge
import Derived.OrdersIn
import Derived.TacticsIn
import Derived.Shelf.Sort.Plain
import Derived.Shelf.Slices.In.SortNone
import Derived.Shelf.Slices.CompactI
import Derived.Ground.Names2Prog
import Derived.Lib.SliceRun
import Derived.Shelf.Abstract
import Derived.Shelf.RegionOpen
import Derived.OwnWalkIn
import Derived.TacticsInMore
import Derived.LoopNIn
import Derived.LoopIn
import Derived.StillTail
import Derived.StillTactics
import Derived.Shelf.Spec.TrailingZeros
import Derived.Test.YtfhhfilkabjhaaaDoorRaae
import Derived.Test.YtfhhfilkabjhaaaDoorKa
import Derived.Test.YtfhhfilkabjhaaaDoorKc
import Derived.Test.YtfhhfilkabjhaaaDoorRaah
import Derived.Test.YtfhhfilkabjhaaaDoorYa
namespace Go.Proofs.YtfhhfilkabjhaaaDoor

/-- The colours of the members of a club, one by one. -/
def colsZ (c : List Int) (z : Int) : List Int := (mem z.toNat).map fun v => c[v]?.getD 0

def mixZ (c : List Int) (z : Int) : Bool := decide (1 < (kindsOf (colsZ c z)).length)
def propZ (c : List Int) (z : Int) : Bool := decide ((kindsOf (colsZ c z)).length = (mem z.toNat).length)
def mixB (zs : List Int) (c : List Int) : Bool := zs.all (mixZ c)
def proB (zs : List Int) (c : List Int) : Bool := zs.all (propZ c)
theorem mixZ_iff {c : List Int} {z : Int} : mixZ c z = true ↔ ∃ v ∈ mem z.toNat, ∃ w ∈ mem z.toNat, c[v]?.getD 0 ≠ c[w]?.getD 0 := by
  rw [mixZ, decide_eq_true_iff, kinds_two]
  simp only [colsZ, List.mem_map]
  constructor
  · rintro ⟨a, ⟨v, hv, rfl⟩, b, ⟨w, hw, rfl⟩, hne⟩; exact ⟨v, hv, w, hw, hne⟩
  · rintro ⟨v, hv, w, hw, hne⟩; exact ⟨_, ⟨v, hv, rfl⟩, _, ⟨w, hw, rfl⟩, hne⟩

theorem mem_nodS (s : Nat) : (mem s).Nodup := List.nodup_range.filter _
theorem nodup_map {α β : Type} {f : α → β} : ∀ {l : List α}, l.Nodup → ((l.map f).Nodup ↔ ∀ a ∈ l, ∀ b ∈ l, f a = f b → a = b)
  | [], _ => by simp
  | x :: l, h => by
    rw [List.nodup_cons] at h
    rw [List.map_cons, List.nodup_cons, nodup_map h.2]
    constructor
    · rintro ⟨h1, h2⟩ a ha b hb e
      rcases List.mem_cons.1 ha with ea | ha'
      · rcases List.mem_cons.1 hb with eb | hb'
        · rw [ea, eb]
        · exact absurd (List.mem_map.2 ⟨b, hb', by rw [← e, ea]⟩) h1
      · rcases List.mem_cons.1 hb with eb | hb'
        · exact absurd (List.mem_map.2 ⟨a, ha', by rw [e, eb]⟩) h1
        · exact h2 a ha' b hb' e
    · intro H
      refine ⟨fun hx => ?_, fun a ha b hb => H a (by simp [ha]) b (by simp [hb])⟩
      obtain ⟨b, hb, e⟩ := List.mem_map.1 hx
      have := H b (by simp [hb]) x (by simp) e
      subst this
      exact h.1 hb

theorem propZ_iff {c : List Int} {z : Int} : propZ c z = true ↔ ∀ v ∈ mem z.toNat, ∀ w ∈ mem z.toNat, c[v]?.getD 0 = c[w]?.getD 0 → v = w := by
  have h := kinds_all (colsZ c z)
  rw [propZ, decide_eq_true_iff, show (mem z.toNat).length = (colsZ c z).length from by simp [colsZ], h, colsZ, nodup_map (mem_nodS _)]

/-- The model's question: two members that differ. -/
def mixM (c : List Int) (z : Int) : Bool := (List.range c.length).any fun v => (List.range v).any fun w => Bt v z && Bt w z && (c[v]?.getD 0 != c[w]?.getD 0)

theorem mem_bt {z : Int} {v : Nat} (hz : z.toNat < 64) : v ∈ mem z.toNat ↔ Bt v z = true := mem_bit2 hz
theorem bt_len {c : List Int} {z : Int} (hc : c.length ≤ 6) (hz : z.toNat < 2 ^ c.length) {v : Nat} (h : Bt v z = true) : v < c.length :=
  mem_lt _ hc _ hz v ((mem_bt (Nat.lt_of_lt_of_le hz (Nat.pow_le_pow_right (n := 2) (by decide) hc))).2 h)

theorem mixM_is {c : List Int} {z : Int} (hc : c.length ≤ 6) (hz : z.toNat < 2 ^ c.length) : mixM c z = mixZ c z := by
  have h64 : z.toNat < 64 := Nat.lt_of_lt_of_le hz (Nat.pow_le_pow_right (n := 2) (by decide) hc)
  rw [Bool.eq_iff_iff, mixZ_iff]
  simp only [mixM, List.any_eq_true, List.mem_range, Bool.and_eq_true, bne_iff_ne, mem_bt h64]
  constructor
  · rintro ⟨v, hv, w, hw, ⟨h1, h2⟩, h3⟩; exact ⟨v, h1, w, h2, h3⟩
  · rintro ⟨v, hv, w, hw, hne⟩
    rcases Nat.lt_trichotomy v w with h | rfl | h
    · exact ⟨w, bt_len hc hz hw, v, h, ⟨hw, hv⟩, fun e => hne e.symm⟩
    · exact absurd rfl hne
    · exact ⟨v, bt_len hc hz hv, w, h, ⟨hv, hw⟩, hne⟩

/-- The model's question for proper colours, by pairs. -/
def pairB (zs : List Int) (v w : Nat) : Bool := decide (v ≠ w) && zs.any fun z => Bt v z && Bt w z

def proM (zs : List Int) (c : List Int) : Bool := (List.range c.length).all fun v => (List.range v).all fun w => !pairB zs v w || (c[v]?.getD 0 != c[w]?.getD 0)
theorem proM_is {zs : List Int} {c : List Int} (hc : c.length ≤ 6) (hz : Sets c.length zs) : proM zs c = proB zs c := by
  rw [Bool.eq_iff_iff]
  simp only [proM, proB, List.all_eq_true, List.mem_range, Bool.or_eq_true, Bool.not_eq_true', bne_iff_ne, pairB, Bool.and_eq_false_iff, decide_eq_false_iff_not, List.any_eq_false, Bool.and_eq_true]
  have h64 : ∀ z ∈ zs, z.toNat < 64 := fun z h => Nat.lt_of_lt_of_le (hz z h).2 (Nat.pow_le_pow_right (n := 2) (by decide) hc)
  constructor
  · intro H z hzz
    rw [propZ_iff]
    intro v hv w hw e
    rw [mem_bt (h64 z hzz)] at hv hw
    have hlv := bt_len hc (hz z hzz).2 hv
    have hlw := bt_len hc (hz z hzz).2 hw
    rcases Nat.lt_trichotomy v w with h | h | h
    · rcases H w hlw v h with (h1 | h1) | h1
      · exact absurd (fun e => by omega) h1
      · exact absurd ⟨hw, hv⟩ (h1 z hzz)
      · exact absurd e.symm h1
    · exact h
    · rcases H v hlv w h with (h1 | h1) | h1
      · exact absurd (fun e => by omega) h1
      · exact absurd ⟨hv, hw⟩ (h1 z hzz)
      · exact absurd e h1
  · intro H v hv w hw
    by_cases he : c[v]?.getD 0 = c[w]?.getD 0
    · refine .inl (.inr fun z hzz hb => ?_)
      have := propZ_iff.1 (H z hzz) v ((mem_bt (h64 z hzz)).2 hb.1) w ((mem_bt (h64 z hzz)).2 hb.2) he
      omega
    · exact .inr he

/-- Colours are exchanged: a map that keeps different colours apart. -/
theorem mix_map {zs : List Int} {c : List Int} {f : Int → Int} (hc : c.length ≤ 6) (hz : Sets c.length zs) (hf : ∀ a ∈ c, ∀ b ∈ c, f a = f b → a = b) : mixB zs (c.map f) = mixB zs c ∧ proB zs (c.map f) = proB zs c := by
  have h64 : ∀ z ∈ zs, z.toNat < 64 := fun z h => Nat.lt_of_lt_of_le (hz z h).2 (Nat.pow_le_pow_right (n := 2) (by decide) hc)
  have hat : ∀ z ∈ zs, ∀ v ∈ mem z.toNat, ∃ a ∈ c, c[v]?.getD 0 = a ∧ (c.map f)[v]?.getD 0 = f a := fun z hzz v hv => by
    have hl := bt_len hc (hz z hzz).2 ((mem_bt (h64 z hzz)).1 hv)
    refine ⟨c[v], List.getElem_mem hl, by simp [hl], by simp [hl]⟩
  have hiff : ∀ z ∈ zs, ∀ v ∈ mem z.toNat, ∀ w ∈ mem z.toNat, ((c.map f)[v]?.getD 0 = (c.map f)[w]?.getD 0 ↔ c[v]?.getD 0 = c[w]?.getD 0) := fun z hzz v hv w hw => by
    obtain ⟨a, ha, e1, e2⟩ := hat z hzz v hv
    obtain ⟨b, hb, e3, e4⟩ := hat z hzz w hw
    rw [e1, e2, e3, e4]
    exact ⟨hf a ha b hb, fun e => by rw [e]⟩
  constructor
  · rw [Bool.eq_iff_iff, mixB, mixB, List.all_eq_true, List.all_eq_true]
    refine forall_congr' fun z => forall_congr' fun hzz => ?_
    rw [mixZ_iff, mixZ_iff]
    constructor
    · rintro ⟨v, hv, w, hw, h⟩; exact ⟨v, hv, w, hw, fun e => h ((hiff z hzz v hv w hw).2 e)⟩
    · rintro ⟨v, hv, w, hw, h⟩; exact ⟨v, hv, w, hw, fun e => h ((hiff z hzz v hv w hw).1 e)⟩
  · rw [Bool.eq_iff_iff, proB, proB, List.all_eq_true, List.all_eq_true]
    refine forall_congr' fun z => forall_congr' fun hzz => ?_
    rw [propZ_iff, propZ_iff]
    constructor
    · intro H v hv w hw e; exact H v hv w hw ((hiff z hzz v hv w hw).2 e)
    · intro H v hv w hw e; exact H v hv w hw ((hiff z hzz v hv w hw).1 e)

/-- All lists, with colours exchanged, are all lists in some order. -/
theorem flat_perm {α β : Type} {f g : α → List β} (h : ∀ a, (f a).Perm (g a)) : ∀ l : List α, (l.flatMap f).Perm (l.flatMap g)
  | [] => .refl _
  | a :: l => by
    rw [List.flatMap_cons, List.flatMap_cons]
    exact (h a).append (flat_perm h l)

theorem words_perm {γ : Type} {pal pal' : List γ} (h : pal.Perm pal') : ∀ n, (wordsL pal n).Perm (wordsL pal' n)
  | 0 => .refl _
  | n + 1 => (flat_perm (fun c => (words_perm h n).map (c :: ·)) pal).trans (h.flatMap_right _)

theorem words_map {γ δ : Type} (f : γ → δ) (pal : List γ) : ∀ n, (wordsL pal n).map (List.map f) = wordsL (pal.map f) n
  | 0 => rfl
  | n + 1 => by
    simp only [wordsL, List.map_flatMap, List.flatMap_map, List.map_map, ← words_map f pal n]
    rfl

/-- 0 and another colour are exchanged. -/
def swapC (j c : Int) : Int := if c = 0 then j else if c = j then 0 else c

theorem swap_inj {j a b : Int} (h : swapC j a = swapC j b) : a = b := by
  unfold swapC at h
  repeat' split at h
  all_goals omega

theorem nodup_pal (k : Nat) : (palI k).Nodup := by
  rw [palI, nodup_map List.nodup_range]
  intro a _ b _ h
  omega

theorem pal_swap {k : Nat} {j : Int} (h0 : 0 ≤ j) (hj : j < k) : ((palI k).map (swapC j)).Perm (palI k) := by
  refine (List.perm_ext_iff_of_nodup ((nodup_map (nodup_pal k)).2 (fun a _ b _ h => swap_inj h)) (nodup_pal k)).2 fun c => ?_
  rw [List.mem_map]
  simp only [palI_mem]
  constructor
  · rintro ⟨a, ha, rfl⟩
    unfold swapC
    repeat' split
    all_goals omega
  · intro hc
    refine ⟨swapC j c, ?_, ?_⟩
    all_goals unfold swapC
    all_goals repeat' split
    all_goals omega

/-- What abides when colours are exchanged. -/
def Swaps (n : Nat) (k : Nat) (P : List Int → Bool) : Prop := ∀ j : Int, 0 ≤ j → j < k → ∀ c ∈ wordsL (palI k) n, P (c.map (swapC j)) = P c

theorem cnt_head {k n : Nat} {P : List Int → Bool} (h : Swaps (n + 1) k P) {j : Int} (h0 : 0 ≤ j) (hj : j < k) :
    (wordsL (palI k) n).countP (fun u => P (j :: u)) = (wordsL (palI k) n).countP (fun u => P (0 :: u)) := by
  have h1 := (words_perm (pal_swap h0 hj) n).countP_eq (fun u => P (0 :: u))
  rw [← words_map, List.countP_map] at h1
  rw [← h1]
  apply List.countP_congr
  intro u hu
  have hm : (j :: u) ∈ wordsL (palI k) (n + 1) := by
    rw [wordsL_mem] at hu ⊢
    refine ⟨by simp [hu.1], fun c hc => ?_⟩
    rcases List.mem_cons.1 hc with rfl | hc
    · exact (palI_mem _ _).2 ⟨h0, hj⟩
    · exact hu.2 c hc
  have := h j h0 hj (j :: u) hm
  simp only [Function.comp]
  rw [← this, List.map_cons, show swapC j j = 0 from by unfold swapC; split <;> simp_all]

/-- The first list of those that are right begins with 0. -/
theorem first_head {k n : Nat} {P : List Int → Bool} (h : Swaps (n + 1) k P) {c : List Int} (hc : (wordsL (palI k) (n + 1)).find? P = some c) : ∃ u, c = 0 :: u := by
  have hP := List.find?_some hc
  have hm := List.mem_of_find?_eq_some hc
  have hm' := hm
  rw [wordsL, List.mem_flatMap] at hm'
  obtain ⟨j, hj, hju⟩ := hm'
  obtain ⟨u, hu, rfl⟩ := List.mem_map.1 hju
  obtain ⟨h0, hjk⟩ := (palI_mem _ _).1 hj
  have hs := h j h0 hjk (j :: u) hm
  rw [hP, List.map_cons, show swapC j j = 0 from by unfold swapC; split <;> simp_all] at hs
  cases k with
  | zero => omega
  | succ k =>
    have hp0 : palI (k + 1) = 0 :: (List.range k).map (fun (c : Nat) => ((c + 1 : Nat) : Int)) := by
      rw [palI, List.range_succ_eq_map, List.map_cons, List.map_map]; rfl
    have hin : u.map (swapC j) ∈ wordsL (palI (k + 1)) n := by
      have := (words_perm (pal_swap h0 hjk) n).mem_iff (a := u.map (swapC j))
      rw [← this, ← words_map]
      exact List.mem_map.2 ⟨u, hu, rfl⟩
    rw [wordsL] at hc
    rw [hp0, List.flatMap_cons, List.find?_append] at hc
    rw [← hp0] at hc
    cases hf : List.find? P (List.map (fun x => 0 :: x) (wordsL (palI (k + 1)) n)) with
    | none =>
      rw [List.find?_eq_none] at hf
      exact absurd hs (hf _ (List.mem_map.2 ⟨_, hin, rfl⟩))
    | some d =>
      rw [hf, Option.some_or] at hc
      cases hc
      obtain ⟨v, -, hv⟩ := List.mem_map.1 (List.mem_of_find?_eq_some hf)
      exact ⟨v, hv.symm⟩

theorem mix_swaps {zs : List Int} {n k : Nat} (hn : n ≤ 6) (hz : Sets n zs) : Swaps n k (mixB zs) := fun j _ _ c hc => by
  obtain ⟨h1, -⟩ := (wordsL_mem _ _ _).1 hc
  exact (mix_map (by omega) (by rw [h1]; exact hz) (fun a _ b _ e => swap_inj e)).1

theorem pro_swaps {zs : List Int} {n k : Nat} (hn : n ≤ 6) (hz : Sets n zs) : Swaps n k (proB zs) := fun j _ _ c hc => by
  obtain ⟨h1, -⟩ := (wordsL_mem _ _ _).1 hc
  exact (mix_map (by omega) (by rw [h1]; exact hz) (fun a _ b _ e => swap_inj e)).2

end Go.Proofs.YtfhhfilkabjhaaaDoor
