/- It is proved how all lists of colours follow on each other and how many kinds of colours a list has; conditions: those of each statement. -/
import Derived.RangeFuncNested
import Derived.RangeFuncBound
import Derived.RangeFuncCalls
import Derived.RangeFuncLeaves
import Derived.RangeFuncBox
import Derived.RangeFuncWrites
import Derived.RowKit
import Derived.Laws.CopyRow
import Derived.Lib.SlBuf
import Derived.Deep.QuietTactic
import Derived.StillTailTactics
import Derived.Maps.OwnIn
import Derived.Maps.Ext
import Derived.DeepKeys4
import Derived.MapKept
import Derived.Test.YtacglafoahmcnaaDoorRows
import Derived.WalkKit
import Derived.WalkSpells
import Derived.ProofKit
import Derived.OpenShut
import Derived.ShutString
import Derived.ChangeOld
import Derived.Below
import Derived.Deep.RegionHeld3
import Derived.BigQuiet
import Derived.Lib.Hide
import Derived.Lib.SmallJoins
import Derived.Outline
import Derived.Laws.MakeOwn
import Derived.Laws.OwnMore
import Derived.IntWalk
import Derived.Lib.AppendZeros
import Derived.Maps.AppendAt
import Derived.Deep.AppendLies
import Derived.OwnWalk
import Derived.Lib.SlicesCompact
import Derived.Lib.OwnBridge
import Derived.OrdersIn
import Derived.TacticsIn
import Derived.Shelf.Sort.Plain
import Derived.Shelf.Slices.In.SortNone
import Derived.Shelf.Slices.CompactI
import Derived.Ground.Names2Prog
import Derived.Lib.SliceRun
import Derived.Shelf.Abstract
import Derived.Shelf.RegionOpen
import Derived.OwnWalkIn
import Derived.TacticsInMore
import Derived.LoopNIn
import Derived.LoopIn
import Derived.StillTail
import Derived.StillTactics
import Derived.Shelf.Spec.TrailingZeros
import Derived.Test.YtacglafoahmcnaaDoorRaal
import Derived.Test.YtacglafoahmcnaaDoorRaam
import Derived.Test.YtacglafoahmcnaaDoorRaae
import Derived.Test.YtacglafoahmcnaaDoorYa
import Derived.Test.YtacglafoahmcnaaDoorRaah
import Derived.Sort.MapsRangeIn
import Derived.Deep.RegionLaw
import Derived.Deep.LoopGhost
import Derived.Test.YtacglafoahmcnaaDoorTb
namespace Go.Proofs.YtacglafoahmcnaaDoor

/-- All lists of n of a palette, in order. -/
def wordsL {γ : Type} (pal : List γ) : Nat → List (List γ)
  | 0 => [[]]
  | n + 1 => pal.flatMap fun c => (wordsL pal n).map (c :: ·)

theorem wordsL_mem {γ : Type} (pal : List γ) : ∀ (n : Nat) (w : List γ), w ∈ wordsL pal n ↔ w.length = n ∧ ∀ c ∈ w, c ∈ pal
  | 0, w => by
    simp only [wordsL, List.mem_singleton]
    constructor
    · rintro rfl; simp
    · rintro ⟨h, -⟩; exact List.eq_nil_of_length_eq_zero h
  | n + 1, w => by
    simp only [wordsL, List.mem_flatMap, List.mem_map]
    constructor
    · rintro ⟨c, hc, u, hu, rfl⟩
      obtain ⟨h1, h2⟩ := (wordsL_mem pal n u).1 hu
      refine ⟨by simp [h1], fun x hx => ?_⟩
      rcases List.mem_cons.1 hx with rfl | h
      · exact hc
      · exact h2 x h
    · rintro ⟨h1, h2⟩
      cases w with
      | nil => simp at h1
      | cons c u => exact ⟨c, h2 c (by simp), u, (wordsL_mem pal n u).2 ⟨by simpa using h1, fun x hx => h2 x (by simp [hx])⟩, rfl⟩

theorem wordsL_card {γ : Type} (pal : List γ) : ∀ n : Nat, (wordsL pal n).length = pal.length ^ n
  | 0 => rfl
  | n + 1 => by
    have hc : ∀ (l : List γ), (l.flatMap fun c => (wordsL pal n).map (c :: ·)).length = l.length * pal.length ^ n := by
      intro l
      induction l with
      | nil => simp
      | cons c l ih => rw [List.flatMap_cons, List.length_append, ih, List.length_map, wordsL_card pal n, List.length_cons, Nat.succ_mul, Nat.add_comm]
    rw [wordsL, hc, Nat.pow_succ, Nat.mul_comm]

theorem wordsL_snoc {γ : Type} (pal : List γ) : ∀ n : Nat, wordsL pal (n + 1) = (wordsL pal n).flatMap fun p => pal.map fun c => p ++ [c]
  | 0 => by
    simp only [wordsL, List.flatMap_cons, List.flatMap_nil, List.append_nil, List.nil_append, List.map_cons, List.map_nil]
    induction pal with
    | nil => rfl
    | cons c l ih => simpa using ih
  | n + 1 => by
    have ih := wordsL_snoc pal n
    show (pal.flatMap fun c => (wordsL pal (n + 1)).map (c :: ·)) = (pal.flatMap fun c => (wordsL pal n).map (c :: ·)).flatMap fun p => pal.map fun c => p ++ [c]
    rw [ih, List.flatMap_assoc]
    congr 1
    funext c
    rw [List.map_flatMap, List.flatMap_map]
    congr 1
    funext p
    rw [List.map_map]
    rfl

/-- The digits of a number to the base k. -/
def digs (k : Nat) : Nat → Nat → List Int
  | 0, _ => []
  | n + 1, c => digs k n (c / k) ++ [((c % k : Nat) : Int)]

theorem digs_len (k : Nat) : ∀ n c, (digs k n c).length = n
  | 0, _ => rfl
  | n + 1, c => by rw [digs, List.length_append, digs_len k n]; rfl

theorem range_mul (b : Nat) : ∀ a : Nat, List.range (a * b) = (List.range a).flatMap fun q => (List.range b).map (q * b + ·)
  | 0 => by simp
  | a + 1 => by
    rw [Nat.succ_mul, List.range_add, range_mul b a, List.range_succ, List.flatMap_append]
    simp

/-- The palette of k colours. -/
def palI (k : Nat) : List Int := (List.range k).map fun (c : Nat) => (c : Int)

theorem palI_len (k : Nat) : (palI k).length = k := by simp [palI]
theorem palI_mem (k : Nat) (c : Int) : c ∈ palI k ↔ 0 ≤ c ∧ c < k := by
  simp only [palI, List.mem_map, List.mem_range]
  constructor
  · rintro ⟨x, hx, rfl⟩; omega
  · intro h; exact ⟨c.toNat, by omega, by omega⟩

theorem digs_words (k : Nat) : ∀ n : Nat, (List.range (k ^ n)).map (digs k n) = wordsL (palI k) n
  | 0 => rfl
  | n + 1 => by
    rw [wordsL_snoc, ← digs_words k n, Nat.pow_succ, range_mul, List.map_flatMap, List.flatMap_map]
    congr 1
    funext q
    rw [List.map_map, palI, List.map_map]
    apply List.map_congr_left
    intro r hr
    have hr : r < k := List.mem_range.1 hr
    simp only [Function.comp, digs]
    rw [Nat.mul_comm q k, Nat.mul_add_div (by omega), Nat.div_eq_of_lt hr, Nat.mul_add_mod, Nat.mod_eq_of_lt hr, Nat.add_zero]

/-- The kinds of colours, one by one. -/
def addK {γ : Type} [BEq γ] (ks : List γ) (c : γ) : List γ := if ks.contains c then ks else ks ++ [c]

def kindsOf {γ : Type} [BEq γ] (l : List γ) : List γ := l.foldl addK []
theorem kindsOf_snoc {γ : Type} [BEq γ] (l : List γ) (c : γ) : kindsOf (l ++ [c]) = addK (kindsOf l) c := by simp [kindsOf, List.foldl_append]
theorem kinds_inv {γ : Type} [BEq γ] [LawfulBEq γ] (l : List γ) : (kindsOf l).Nodup ∧ (∀ c, c ∈ kindsOf l ↔ c ∈ l) ∧ (kindsOf l).length ≤ l.length := by
  have H : ∀ r : List γ, ∀ l, l = r.reverse → (kindsOf l).Nodup ∧ (∀ c, c ∈ kindsOf l ↔ c ∈ l) ∧ (kindsOf l).length ≤ l.length := by
    intro r
    induction r with
    | nil => rintro l rfl; simp [kindsOf]
    | cons a r ih =>
      rintro l rfl
      obtain ⟨h1, h2, h3⟩ := ih _ rfl
      rw [List.reverse_cons, kindsOf_snoc, addK]
      by_cases hc : (kindsOf r.reverse).contains a = true
      · rw [if_pos hc]
        have ha : a ∈ kindsOf r.reverse := by simpa using hc
        refine ⟨h1, fun c => ?_, by simp at h3 ⊢; omega⟩
        rw [h2, List.mem_append, List.mem_singleton]
        constructor
        · exact Or.inl
        · rintro (h | rfl)
          · exact h
          · exact (h2 _).1 ha
      · rw [if_neg hc]
        have ha : a ∉ kindsOf r.reverse := by simpa using hc
        refine ⟨?_, fun c => ?_, by simp at h3 ⊢; omega⟩
        · rw [List.nodup_append]
          refine ⟨h1, by simp, ?_⟩
          intro x hx y hy e
          rw [List.mem_singleton] at hy
          subst hy; subst e
          exact ha hx
        · rw [List.mem_append, List.mem_append, h2]
  exact H l.reverse l (by simp)

theorem kinds_two {γ : Type} [BEq γ] [LawfulBEq γ] (l : List γ) : 1 < (kindsOf l).length ↔ ∃ a ∈ l, ∃ b ∈ l, a ≠ b := by
  obtain ⟨h1, h2, h3⟩ := kinds_inv l
  constructor
  · intro h
    match hk : kindsOf l with
    | [] => rw [hk] at h; simp at h
    | [_] => rw [hk] at h; simp at h
    | a :: b :: r =>
      refine ⟨a, (h2 a).1 (by rw [hk]; simp), b, (h2 b).1 (by rw [hk]; simp), ?_⟩
      rw [hk] at h1
      rintro rfl
      simp at h1
  · rintro ⟨a, ha, b, hb, hab⟩
    have ha' := (h2 a).2 ha
    have hb' := (h2 b).2 hb
    match hk : kindsOf l with
    | [] => rw [hk] at ha'; simp at ha'
    | [c] =>
      rw [hk] at ha' hb'
      rw [List.mem_singleton] at ha' hb'
      exact absurd (ha'.trans hb'.symm) hab
    | _ :: _ :: _ => simp

theorem kinds_all {γ : Type} [BEq γ] [LawfulBEq γ] (l : List γ) : (kindsOf l).length = l.length ↔ l.Nodup := by
  have H : ∀ r : List γ, ∀ l, l = r.reverse → ((kindsOf l).length = l.length ↔ l.Nodup) := by
    intro r
    induction r with
    | nil => rintro l rfl; simp [kindsOf]
    | cons a r ih =>
      rintro l rfl
      have ih := ih _ rfl
      obtain ⟨h1, h2, h3⟩ := kinds_inv r.reverse
      rw [List.reverse_cons, kindsOf_snoc, addK]
      by_cases hc : (kindsOf r.reverse).contains a = true
      · rw [if_pos hc]
        have ha : a ∈ r.reverse := (h2 a).1 (by simpa using hc)
        constructor
        · intro h; rw [List.length_append] at h; simp at h h3; omega
        · intro h
          rw [List.nodup_append] at h
          exact absurd rfl (h.2.2 a ha a (by simp))
      · rw [if_neg hc]
        have ha : a ∉ r.reverse := fun h => hc (by simpa using (h2 a).2 h)
        rw [List.length_append, List.length_append, List.nodup_append]
        constructor
        · intro h
          refine ⟨ih.1 (by simp at h ⊢; omega), by simp, ?_⟩
          intro x hx y hy e
          rw [List.mem_singleton] at hy
          subst hy; subst e
          exact ha hx
        · rintro ⟨h, -, -⟩
          rw [ih.2 h]
  exact H l.reverse l (by simp)

end Go.Proofs.YtacglafoahmcnaaDoor

/- It is proved which colours are mixed and which are proper, and that colours may be exchanged; conditions: those of each statement. -/
namespace Go.Proofs.YtacglafoahmcnaaDoor

/-- The colours of the members of a club, one by one. -/
def colsZ (c : List Int) (z : Int) : List Int := (mem z.toNat).map fun v => c[v]?.getD 0

def mixZ (c : List Int) (z : Int) : Bool := decide (1 < (kindsOf (colsZ c z)).length)
def propZ (c : List Int) (z : Int) : Bool := decide ((kindsOf (colsZ c z)).length = (mem z.toNat).length)
def mixB (zs : List Int) (c : List Int) : Bool := zs.all (mixZ c)
def proB (zs : List Int) (c : List Int) : Bool := zs.all (propZ c)
theorem mixZ_iff {c : List Int} {z : Int} : mixZ c z = true ↔ ∃ v ∈ mem z.toNat, ∃ w ∈ mem z.toNat, c[v]?.getD 0 ≠ c[w]?.getD 0 := by
  rw [mixZ, decide_eq_true_iff, kinds_two]
  simp only [colsZ, List.mem_map]
  constructor
  · rintro ⟨a, ⟨v, hv, rfl⟩, b, ⟨w, hw, rfl⟩, hne⟩; exact ⟨v, hv, w, hw, hne⟩
  · rintro ⟨v, hv, w, hw, hne⟩; exact ⟨_, ⟨v, hv, rfl⟩, _, ⟨w, hw, rfl⟩, hne⟩

theorem mem_nodS (s : Nat) : (mem s).Nodup := List.nodup_range.filter _
theorem nodup_map {α β : Type} {f : α → β} : ∀ {l : List α}, l.Nodup → ((l.map f).Nodup ↔ ∀ a ∈ l, ∀ b ∈ l, f a = f b → a = b)
  | [], _ => by simp
  | x :: l, h => by
    rw [List.nodup_cons] at h
    rw [List.map_cons, List.nodup_cons, nodup_map h.2]
    constructor
    · rintro ⟨h1, h2⟩ a ha b hb e
      rcases List.mem_cons.1 ha with ea | ha'
      · rcases List.mem_cons.1 hb with eb | hb'
        · rw [ea, eb]
        · exact absurd (List.mem_map.2 ⟨b, hb', by rw [← e, ea]⟩) h1
      · rcases List.mem_cons.1 hb with eb | hb'
        · exact absurd (List.mem_map.2 ⟨a, ha', by rw [e, eb]⟩) h1
        · exact h2 a ha' b hb' e
    · intro H
      refine ⟨fun hx => ?_, fun a ha b hb => H a (by simp [ha]) b (by simp [hb])⟩
      obtain ⟨b, hb, e⟩ := List.mem_map.1 hx
      have := H b (by simp [hb]) x (by simp) e
      subst this
      exact h.1 hb

theorem propZ_iff {c : List Int} {z : Int} : propZ c z = true ↔ ∀ v ∈ mem z.toNat, ∀ w ∈ mem z.toNat, c[v]?.getD 0 = c[w]?.getD 0 → v = w := by
  have h := kinds_all (colsZ c z)
  rw [propZ, decide_eq_true_iff, show (mem z.toNat).length = (colsZ c z).length from by simp [colsZ], h, colsZ, nodup_map (mem_nodS _)]

/-- The model's question: two members that differ. -/
def mixM (c : List Int) (z : Int) : Bool := (List.range c.length).any fun v => (List.range v).any fun w => Bt v z && Bt w z && (c[v]?.getD 0 != c[w]?.getD 0)

theorem mem_bt {z : Int} {v : Nat} (hz : z.toNat < 64) : v ∈ mem z.toNat ↔ Bt v z = true := mem_bit2 hz
theorem bt_len {c : List Int} {z : Int} (hc : c.length ≤ 6) (hz : z.toNat < 2 ^ c.length) {v : Nat} (h : Bt v z = true) : v < c.length :=
  mem_lt _ hc _ hz v ((mem_bt (Nat.lt_of_lt_of_le hz (Nat.pow_le_pow_right (n := 2) (by decide) hc))).2 h)

theorem mixM_is {c : List Int} {z : Int} (hc : c.length ≤ 6) (hz : z.toNat < 2 ^ c.length) : mixM c z = mixZ c z := by
  have h64 : z.toNat < 64 := Nat.lt_of_lt_of_le hz (Nat.pow_le_pow_right (n := 2) (by decide) hc)
  rw [Bool.eq_iff_iff, mixZ_iff]
  simp only [mixM, List.any_eq_true, List.mem_range, Bool.and_eq_true, bne_iff_ne, mem_bt h64]
  constructor
  · rintro ⟨v, hv, w, hw, ⟨h1, h2⟩, h3⟩; exact ⟨v, h1, w, h2, h3⟩
  · rintro ⟨v, hv, w, hw, hne⟩
    rcases Nat.lt_trichotomy v w with h | rfl | h
    · exact ⟨w, bt_len hc hz hw, v, h, ⟨hw, hv⟩, fun e => hne e.symm⟩
    · exact absurd rfl hne
    · exact ⟨v, bt_len hc hz hv, w, h, ⟨hv, hw⟩, hne⟩

/-- Colours are exchanged: a map that keeps different colours apart. -/
theorem mix_map {zs : List Int} {c : List Int} {f : Int → Int} (hc : c.length ≤ 6) (hz : Sets c.length zs) (hf : ∀ a ∈ c, ∀ b ∈ c, f a = f b → a = b) : mixB zs (c.map f) = mixB zs c ∧ proB zs (c.map f) = proB zs c := by
  have h64 : ∀ z ∈ zs, z.toNat < 64 := fun z h => Nat.lt_of_lt_of_le (hz z h).2 (Nat.pow_le_pow_right (n := 2) (by decide) hc)
  have hat : ∀ z ∈ zs, ∀ v ∈ mem z.toNat, ∃ a ∈ c, c[v]?.getD 0 = a ∧ (c.map f)[v]?.getD 0 = f a := fun z hzz v hv => by
    have hl := bt_len hc (hz z hzz).2 ((mem_bt (h64 z hzz)).1 hv)
    refine ⟨c[v], List.getElem_mem hl, by simp [hl], by simp [hl]⟩
  have hiff : ∀ z ∈ zs, ∀ v ∈ mem z.toNat, ∀ w ∈ mem z.toNat, ((c.map f)[v]?.getD 0 = (c.map f)[w]?.getD 0 ↔ c[v]?.getD 0 = c[w]?.getD 0) := fun z hzz v hv w hw => by
    obtain ⟨a, ha, e1, e2⟩ := hat z hzz v hv
    obtain ⟨b, hb, e3, e4⟩ := hat z hzz w hw
    rw [e1, e2, e3, e4]
    exact ⟨hf a ha b hb, fun e => by rw [e]⟩
  constructor
  · rw [Bool.eq_iff_iff, mixB, mixB, List.all_eq_true, List.all_eq_true]
    refine forall_congr' fun z => forall_congr' fun hzz => ?_
    rw [mixZ_iff, mixZ_iff]
    constructor
    · rintro ⟨v, hv, w, hw, h⟩; exact ⟨v, hv, w, hw, fun e => h ((hiff z hzz v hv w hw).2 e)⟩
    · rintro ⟨v, hv, w, hw, h⟩; exact ⟨v, hv, w, hw, fun e => h ((hiff z hzz v hv w hw).1 e)⟩
  · rw [Bool.eq_iff_iff, proB, proB, List.all_eq_true, List.all_eq_true]
    refine forall_congr' fun z => forall_congr' fun hzz => ?_
    rw [propZ_iff, propZ_iff]
    constructor
    · intro H v hv w hw e; exact H v hv w hw ((hiff z hzz v hv w hw).2 e)
    · intro H v hv w hw e; exact H v hv w hw ((hiff z hzz v hv w hw).1 e)

/-- All lists, with colours exchanged, are all lists in some order. -/
theorem flat_perm {α β : Type} {f g : α → List β} (h : ∀ a, (f a).Perm (g a)) : ∀ l : List α, (l.flatMap f).Perm (l.flatMap g)
  | [] => .refl _
  | a :: l => by
    rw [List.flatMap_cons, List.flatMap_cons]
    exact (h a).append (flat_perm h l)

theorem words_perm {γ : Type} {pal pal' : List γ} (h : pal.Perm pal') : ∀ n, (wordsL pal n).Perm (wordsL pal' n)
  | 0 => .refl _
  | n + 1 => (flat_perm (fun c => (words_perm h n).map (c :: ·)) pal).trans (h.flatMap_right _)

theorem words_map {γ δ : Type} (f : γ → δ) (pal : List γ) : ∀ n, (wordsL pal n).map (List.map f) = wordsL (pal.map f) n
  | 0 => rfl
  | n + 1 => by
    simp only [wordsL, List.map_flatMap, List.flatMap_map, List.map_map, ← words_map f pal n]
    rfl

/-- 0 and another colour are exchanged. -/
def swapC (j c : Int) : Int := if c = 0 then j else if c = j then 0 else c

theorem swap_inj {j a b : Int} (h : swapC j a = swapC j b) : a = b := by
  unfold swapC at h
  repeat' split at h
  all_goals omega

theorem nodup_pal (k : Nat) : (palI k).Nodup := by
  rw [palI, nodup_map List.nodup_range]
  intro a _ b _ h
  omega

theorem pal_swap {k : Nat} {j : Int} (h0 : 0 ≤ j) (hj : j < k) : ((palI k).map (swapC j)).Perm (palI k) := by
  refine (List.perm_ext_iff_of_nodup ((nodup_map (nodup_pal k)).2 (fun a _ b _ h => swap_inj h)) (nodup_pal k)).2 fun c => ?_
  rw [List.mem_map]
  simp only [palI_mem]
  constructor
  · rintro ⟨a, ha, rfl⟩
    unfold swapC
    repeat' split
    all_goals omega
  · intro hc
    refine ⟨swapC j c, ?_, ?_⟩
    all_goals unfold swapC
    all_goals repeat' split
    all_goals omega

/-- What abides when colours are exchanged. -/
def Swaps (n : Nat) (k : Nat) (P : List Int → Bool) : Prop := ∀ j : Int, 0 ≤ j → j < k → ∀ c ∈ wordsL (palI k) n, P (c.map (swapC j)) = P c

theorem cnt_head {k n : Nat} {P : List Int → Bool} (h : Swaps (n + 1) k P) {j : Int} (h0 : 0 ≤ j) (hj : j < k) :
    (wordsL (palI k) n).countP (fun u => P (j :: u)) = (wordsL (palI k) n).countP (fun u => P (0 :: u)) := by
  have h1 := (words_perm (pal_swap h0 hj) n).countP_eq (fun u => P (0 :: u))
  rw [← words_map, List.countP_map] at h1
  rw [← h1]
  apply List.countP_congr
  intro u hu
  have hm : (j :: u) ∈ wordsL (palI k) (n + 1) := by
    rw [wordsL_mem] at hu ⊢
    refine ⟨by simp [hu.1], fun c hc => ?_⟩
    rcases List.mem_cons.1 hc with rfl | hc
    · exact (palI_mem _ _).2 ⟨h0, hj⟩
    · exact hu.2 c hc
  have := h j h0 hj (j :: u) hm
  simp only [Function.comp]
  rw [← this, List.map_cons, show swapC j j = 0 from by unfold swapC; split <;> simp_all]

theorem swap_cnt {k n : Nat} {P : List Int → Bool} (h : Swaps (n + 1) k P) : (wordsL (palI k) (n + 1)).countP P = k * (wordsL (palI k) n).countP (fun u => P (0 :: u)) := by
  have H : ∀ l : List Int, (∀ j ∈ l, 0 ≤ j ∧ j < k) → (l.flatMap fun c => (wordsL (palI k) n).map (c :: ·)).countP P = l.length * (wordsL (palI k) n).countP (fun u => P (0 :: u)) := by
    intro l
    induction l with
    | nil => intro _; simp
    | cons j l ih =>
      intro hl
      obtain ⟨h0, hj⟩ := hl j (by simp)
      rw [List.flatMap_cons, List.countP_append, ih (fun i hi => hl i (by simp [hi])), List.countP_map, List.length_cons, Nat.succ_mul, Nat.add_comm]
      congr 1
      exact cnt_head h h0 hj
  rw [wordsL, H _ (fun j hj => (palI_mem _ _).1 hj), palI_len]

theorem mix_swaps {zs : List Int} {n k : Nat} (hn : n ≤ 6) (hz : Sets n zs) : Swaps n k (mixB zs) := fun j _ _ c hc => by
  obtain ⟨h1, -⟩ := (wordsL_mem _ _ _).1 hc
  exact (mix_map (by omega) (by rw [h1]; exact hz) (fun a _ b _ e => swap_inj e)).1

theorem pro_swaps {zs : List Int} {n k : Nat} (hn : n ≤ 6) (hz : Sets n zs) : Swaps n k (proB zs) := fun j _ _ c hc => by
  obtain ⟨h1, -⟩ := (wordsL_mem _ _ _).1 hc
  exact (mix_map (by omega) (by rw [h1]; exact hz) (fun a _ b _ e => swap_inj e)).2

end Go.Proofs.YtacglafoahmcnaaDoor

/- It is proved what a round of reducing does to a list of sets; conditions: those of each statement. -/
namespace Go.Proofs.YtacglafoahmcnaaDoor
open Go.RowKit

def mbN (zs : List Int) : Nat := (List.range 6).countP fun v => zs.any (Bt v)
theorem mbN_le (zs : List Int) : mbN zs ≤ 6 := by
  have := List.countP_le_length (p := fun v => zs.any (Bt v)) (l := List.range 6)
  simpa [mbN] using this

theorem cnt6 (p q : Nat → Bool) (v : Nat) (hv : v < 6) (hp : p v = true) (hq : q v = false) (h : ∀ u, u < 6 → u ≠ v → q u = p u) : (List.range 6).countP q + 1 = (List.range 6).countP p := by
  have h0 := h 0 (by omega)
  have h1 := h 1 (by omega)
  have h2 := h 2 (by omega)
  have h3 := h 3 (by omega)
  have h4 := h 4 (by omega)
  have h5 := h 5 (by omega)
  rw [show List.range 6 = [0, 1, 2, 3, 4, 5] from rfl]
  simp only [List.countP_cons, List.countP_nil]
  match v, hv with
  | 0, _ => rw [hp, hq, h1 (by omega), h2 (by omega), h3 (by omega), h4 (by omega), h5 (by omega)]; simp
  | 1, _ => rw [hp, hq, h0 (by omega), h2 (by omega), h3 (by omega), h4 (by omega), h5 (by omega)]; simp; omega
  | 2, _ => rw [hp, hq, h0 (by omega), h1 (by omega), h3 (by omega), h4 (by omega), h5 (by omega)]; simp; omega
  | 3, _ => rw [hp, hq, h0 (by omega), h1 (by omega), h2 (by omega), h4 (by omega), h5 (by omega)]; simp; omega
  | 4, _ => rw [hp, hq, h0 (by omega), h1 (by omega), h2 (by omega), h3 (by omega), h5 (by omega)]; simp; omega
  | 5, _ => rw [hp, hq, h0 (by omega), h1 (by omega), h2 (by omega), h3 (by omega), h4 (by omega)]; simp; omega

theorem mb_ext {zs ys : List Int} (h : ∀ v, v < 6 → zs.any (Bt v) = ys.any (Bt v)) : mbN zs = mbN ys := by
  unfold mbN
  exact List.countP_congr fun v hv => by rw [h v (List.mem_range.1 hv)]

theorem mb_gr {m : Nat} (hm : m ≤ 6) {zs : List Int} (hS : Sets m zs) : mbN (grZ zs) = mbN zs := mb_ext fun v _ => by
  rw [Bool.eq_iff_iff, List.any_eq_true, List.any_eq_true]
  constructor
  · rintro ⟨x, hx, h⟩
    exact ⟨x, gr_sub hx, h⟩
  · rintro ⟨x, hx, h⟩
    obtain ⟨o, ho, hs⟩ := gr_above hm hS _ x rfl hx
    exact ⟨o, ho, subZ_bit hs h⟩

theorem mb_cut {m v : Nat} (hm : m ≤ 6) (hv : v < 6) {zs : List Int} (hS : Sets m zs) (h : zs.any (Bt v) = true) : mbN (zs.map (woZ v)) + 1 = mbN zs := by
  have hl : ∀ z ∈ zs, z.toNat < 64 := fun z hz => p64 hm (hS z hz).2
  unfold mbN
  refine cnt6 _ _ v hv h ?_ fun u hu hne => ?_
  · rw [List.any_eq_false]
    intro y hy hb
    obtain ⟨x, hx, rfl⟩ := List.mem_map.1 hy
    rw [woZ_bit (hl x hx) hv hv] at hb
    simp at hb
  · show (zs.map (woZ v)).any (Bt u) = zs.any (Bt u)
    rw [List.any_map, Bool.eq_iff_iff, List.any_eq_true, List.any_eq_true]
    constructor
    · rintro ⟨x, hx, hb⟩
      rw [Function.comp_apply, woZ_bit (hl x hx) hu hv, Bool.and_eq_true] at hb
      exact ⟨x, hx, hb.1⟩
    · rintro ⟨x, hx, hb⟩
      refine ⟨x, hx, ?_⟩
      rw [Function.comp_apply, woZ_bit (hl x hx) hu hv, hb, decide_eq_true hne]; rfl

theorem idx_one {p : Int → Bool} : ∀ {l : List Int}, l.countP p = 1 → ∀ {i j : Nat} {x y : Int}, l[i]? = some x → l[j]? = some y → p x = true → p y = true → i = j
  | [], h, _, _, _, _, _, _, _, _ => by simp at h
  | a :: l, h, 0, 0, _, _, _, _, _, _ => rfl
  | a :: l, h, 0, j + 1, x, y, hx, hy, px, py => by
      simp only [List.getElem?_cons_zero, Option.some.injEq] at hx
      simp only [List.getElem?_cons_succ] at hy
      subst hx
      rw [List.countP_cons, if_pos px] at h
      have := List.countP_eq_zero.1 (by omega : l.countP p = 0) y (List.mem_of_getElem? hy)
      exact (this py).elim
  | a :: l, h, i + 1, 0, x, y, hx, hy, px, py => by
      simp only [List.getElem?_cons_zero, Option.some.injEq] at hy
      simp only [List.getElem?_cons_succ] at hx
      subst hy
      rw [List.countP_cons, if_pos py] at h
      have := List.countP_eq_zero.1 (by omega : l.countP p = 0) x (List.mem_of_getElem? hx)
      exact (this px).elim
  | a :: l, h, i + 1, j + 1, x, y, hx, hy, px, py => by
      simp only [List.getElem?_cons_succ] at hx hy
      rw [List.countP_cons] at h
      have h1 : 1 ≤ l.countP p := List.countP_pos_iff.2 ⟨x, List.mem_of_getElem? hx, px⟩
      by_cases e : p a = true
      · rw [if_pos e] at h; omega
      · rw [if_neg e] at h
        have := idx_one h hx hy px py
        omega

theorem set_map {l : List Int} {p : Int → Bool} {f : Int → Int} (hc : l.countP p = 1) {i : Nat} {x : Int} (hx : l[i]? = some x) (px : p x = true) (hf : ∀ z ∈ l, p z = false → f z = z) : l.set i (f x) = l.map f := by
  refine List.ext_getElem? fun j => ?_
  rw [List.getElem?_set, List.getElem?_map]
  have hi : i < l.length := (List.getElem?_eq_some_iff.1 hx).1
  by_cases e : i = j
  · subst e
    rw [if_pos rfl, if_pos hi, hx]; rfl
  · rw [if_neg e]
    cases hy : l[j]? with
    | none => rfl
    | some y =>
      show some y = some (f y)
      cases hp : p y
      · rw [hf y (List.mem_of_getElem? hy) hp]
      · exact (e (idx_one hc hx hy px hp)).elim

theorem erase_mem {l : List Int} {i : Nat} {z : Int} : z ∈ l.eraseIdx i ↔ ∃ j, j ≠ i ∧ l[j]? = some z := by
  rw [List.mem_eraseIdx_iff_getElem?]

theorem erase_sets {m i : Nat} {l : List Int} (hS : Sets m l) : Sets m (l.eraseIdx i) := fun z h => by
  obtain ⟨j, _, hj⟩ := erase_mem.1 h
  exact hS z (List.mem_of_getElem? hj)

theorem gr_erase {m : Nat} (hm : m ≤ 6) {l : List Int} (hS : Sets m l) {i k : Nat} {x y : Int} (hne : i ≠ k) (hx : l[i]? = some x) (hy : l[k]? = some y) (hs : subZ x y) : grZ (l.eraseIdx i) = grZ l := by
  have hxm := List.mem_of_getElem? hx
  have hym := List.mem_of_getElem? hy
  have he : ∀ z ∈ l, z ∈ l.eraseIdx i ∨ z = x := fun z hz => by
    obtain ⟨j, hj⟩ := List.mem_iff_getElem?.1 hz
    by_cases e : j = i
    · subst e; rw [hx] at hj; exact .inr (Option.some.inj hj).symm
    · exact .inl (erase_mem.2 ⟨j, e, hj⟩)
  have hye : y ∈ l.eraseIdx i := erase_mem.2 ⟨k, fun e => hne e.symm, hy⟩
  have hin : ∀ z ∈ l.eraseIdx i, z ∈ l := fun z h => by
    obtain ⟨j, _, hj⟩ := erase_mem.1 h
    exact List.mem_of_getElem? hj
  refine gr_ext hm (erase_sets hS) hS fun z => ?_
  constructor
  · rintro ⟨h1, h2⟩
    refine ⟨hin z h1, fun o ho hso => ?_⟩
    rcases he o ho with h | rfl
    · exact h2 o h hso
    · have e := h2 y hye (subZ_trans hso hs)
      subst e
      exact subZ_anti (hS _ hxm).1 (hS _ hym).1 hs hso
  · rintro ⟨h1, h2⟩
    refine ⟨?_, fun o ho => h2 o (hin o ho)⟩
    rcases he z h1 with h | rfl
    · exact h
    · rw [← h2 y hym hs]; exact hye

theorem mb_erase {m : Nat} (hm : m ≤ 6) {l : List Int} (hS : Sets m l) {i k : Nat} {x y : Int} (hne : i ≠ k) (hx : l[i]? = some x) (hy : l[k]? = some y) (hs : subZ x y) : mbN (l.eraseIdx i) = mbN l := by
  rw [← mb_gr hm (erase_sets hS), gr_erase hm hS hne hx hy hs, mb_gr hm hS]

/-- What the model's reducing keeps: its list and its steps. -/
def RedS (m : Nat) (zs out : List Int) (st : Nat) : Prop := Sets m out ∧ Red m (grZ zs) (grZ out) ∧ st + mbN out + out.length = mbN zs + zs.length

theorem bt_lt {m v : Nat} {z : Int} (h : z.toNat < 2 ^ m) (hb : Bt v z = true) : v < m := by
  by_cases e : v < m
  · exact e
  · unfold Bt at hb
    rw [Nat.testBit_lt_two_pow (Nat.lt_of_lt_of_le h (Nat.pow_le_pow_right (by decide) (by omega)))] at hb
    cases hb

theorem d1_gr {m v : Nat} (hm : m ≤ 6) {l : List Int} (hS : Sets m l) (hc : l.countP (Bt v) = 1) {i : Nat} {x : Int} (hx : l[i]? = some x) (hb : Bt v x = true) : D1 v (grZ l) := by
  have one : ∀ y ∈ l, Bt v y = true → y = x := fun y hy h => by
    obtain ⟨j, hj⟩ := List.mem_iff_getElem?.1 hy
    have := idx_one hc hx hj hb h
    subst this
    rw [hx] at hj
    exact (Option.some.inj hj).symm
  exact ⟨x, (gr_mem hm hS x).2 ⟨List.mem_of_getElem? hx, fun o ho hs => one o ho (subZ_bit hs hb)⟩, hb, fun y hy h => one y (gr_sub hy) h⟩

theorem RedS.cut {m : Nat} (hm : m ≤ 6) {zs out : List Int} {st : Nat} (h : RedS m zs out st) {v : Nat} (hv : v < 6) (hc : out.countP (Bt v) = 1) {i : Nat} {x : Int} (hx : out[i]? = some x) (hb : Bt v x = true) :
    RedS m zs (out.set i (woZ v x)) (st + 1) := by
  obtain ⟨hS, hr, he⟩ := h
  have hl : ∀ z ∈ out, z.toNat < 64 := fun z hz => p64 hm (hS z hz).2
  have hxm := List.mem_of_getElem? hx
  rw [set_map (f := woZ v) hc hx hb (fun z hz hp => woZ_same (hS z hz).1 (hl z hz) hv hp)]
  refine ⟨woZ_sets hS, hr.trans ?_, ?_⟩
  · have h2 : stepZ v (grZ out) = grZ (out.map (woZ v)) := gr_map hm hS (woZ v) (woZ_sets hS) fun x _ y _ h => woZ_mono v h
    rw [← h2]
    exact .one (bt_lt (hS x hxm).2 hb) (d1_gr hm hS hc hx hb)
  · have := mb_cut hm hv hS (List.any_eq_true.2 ⟨x, hxm, hb⟩)
    rw [List.length_map]
    omega

theorem RedS.drop {m : Nat} (hm : m ≤ 6) {zs out : List Int} {st : Nat} (h : RedS m zs out st) {i k : Nat} {x y : Int} (hne : i ≠ k) (hx : out[i]? = some x) (hy : out[k]? = some y) (hs : subZ x y) :
    RedS m zs (out.eraseIdx i) (st + 1) := by
  obtain ⟨hS, hr, he⟩ := h
  have hi : i < out.length := (List.getElem?_eq_some_iff.1 hx).1
  refine ⟨erase_sets hS, ?_, ?_⟩
  · rw [gr_erase hm hS hne hx hy hs]; exact hr
  · rw [mb_erase hm hS hne hx hy hs, List.length_eraseIdx, if_pos hi]
    omega

theorem RedS.start {m : Nat} {zs : List Int} (hS : Sets m zs) : RedS m zs zs 0 := ⟨hS, .refl _, by omega⟩
/-- No set is a part of one at another place. -/
def Apart (l : List Int) (n : Nat) : Prop := ∀ i, i < n → ∀ k x y, i ≠ k → l[i]? = some x → l[k]? = some y → subZ x y → x = y ∧ i ≤ k

theorem Apart.ne {l : List Int} (h : Apart l l.length) {i k : Nat} {x y : Int} (hne : i ≠ k) (hx : l[i]? = some x) (hy : l[k]? = some y) : ¬ subZ x y := fun hs => by
  have hi : i < l.length := (List.getElem?_eq_some_iff.1 hx).1
  have hk : k < l.length := (List.getElem?_eq_some_iff.1 hy).1
  obtain ⟨e, h1⟩ := h i hi k x y hne hx hy hs
  subst e
  have := (h k hk i x x (fun e => hne e.symm) hy hx hs).2
  omega

theorem apart_gr {m : Nat} (hm : m ≤ 6) {l : List Int} (hS : Sets m l) (h : Apart l l.length) : (∀ z, z ∈ grZ l ↔ z ∈ l) ∧ l.Nodup ∧ simpZ l = grZ l := by
  have h1 : ∀ z, z ∈ grZ l ↔ z ∈ l := fun z => by
    rw [gr_mem hm hS]
    refine ⟨fun h => h.1, fun hz => ⟨hz, fun o ho hs => ?_⟩⟩
    obtain ⟨i, hi⟩ := List.mem_iff_getElem?.1 hz
    obtain ⟨k, hk⟩ := List.mem_iff_getElem?.1 ho
    by_cases e : i = k
    · subst e; rw [hi] at hk; exact (Option.some.inj hk).symm
    · exact (h.ne e hi hk hs).elim
  refine ⟨h1, ?_, ?_⟩
  · unfold List.Nodup
    rw [List.pairwise_iff_getElem]
    intro i j hi hj hij e
    exact h.ne (x := l[i]) (y := l[j]) (by omega) (List.getElem?_eq_getElem hi) (List.getElem?_eq_getElem hj) (by rw [e]; exact subZ_refl _)
  · exact asc_ext _ _ (simpZ_asc l) (unbeaten_asc _ _) fun z => by rw [simpZ_mem]; exact (h1 z).symm

theorem d1_cnt {v : Nat} {l G : List Int} (hn : l.Nodup) (h : ∀ z, z ∈ G ↔ z ∈ l) : D1 v G ↔ l.countP (Bt v) = 1 := by
  constructor
  · rintro ⟨x, hx, hb, hq⟩
    have e : l.countP (Bt v) = l.countP (fun z => decide (z = x)) := List.countP_congr fun z hz => by
      rw [decide_eq_true_eq]
      exact ⟨fun hz' => hq z ((h z).2 hz) hz', fun e => e ▸ hb⟩
    rw [e]
    have h2 : l.countP (fun z => decide (z = x)) = l.count x := by
      rw [List.count]
      exact List.countP_congr fun z _ => by rw [decide_eq_true_eq, beq_iff_eq]
    rw [h2, List.Nodup.count hn, if_pos ((h x).1 hx)]
  · intro hc
    obtain ⟨x, hx, hb⟩ := List.countP_pos_iff.1 (by omega : 0 < l.countP (Bt v))
    obtain ⟨i, hi⟩ := List.mem_iff_getElem?.1 hx
    refine ⟨x, (h x).2 hx, hb, fun y hy hyb => ?_⟩
    obtain ⟨j, hj⟩ := List.mem_iff_getElem?.1 ((h y).1 hy)
    have := idx_one hc hi hj hb hyb
    subst this
    rw [hi] at hj
    exact (Option.some.inj hj).symm

theorem gr_nodup (zs : List Int) : (grZ zs).Nodup := (unbeaten_asc geG zs).imp (fun h => by omega)
/-- What is left, told by reducing the first such member again and again. -/
def redF : Nat → Nat → List Int → List Int
  | 0, _, G => G
  | f + 1, m, G => match (List.range m).find? fun v => decide (G.countP (Bt v) = 1) with
    | none => G
    | some v => redF f m (stepZ v G)

def redZ (m : Nat) (zs : List Int) : List Int := redF 7 m (grZ zs)
theorem redF_is {m : Nat} (hm : m ≤ 6) : ∀ (f : Nat) (G : List Int), G.Nodup → Sets m G → mbN G < f → Red m G (redF f m G) ∧ Done m (redF f m G) := by
  intro f
  induction f with
  | zero => intro G _ _ h; omega
  | succ f ih =>
    intro G hn hS hlt
    rw [redF]
    cases hf : (List.range m).find? fun v => decide (G.countP (Bt v) = 1) with
    | none =>
      refine ⟨.refl _, fun v hv hd => ?_⟩
      rw [List.find?_eq_none] at hf
      exact hf v (List.mem_range.2 hv) (by rw [decide_eq_true_eq]; exact (d1_cnt hn (fun _ => Iff.rfl)).1 hd)
    | some v =>
      have hc := List.find?_some hf
      have hv := List.mem_range.1 (List.mem_of_find?_eq_some hf)
      rw [decide_eq_true_eq] at hc
      have hd : D1 v G := (d1_cnt hn (fun _ => Iff.rfl)).2 hc
      have hlt2 : mbN (stepZ v G) < f := by
        obtain ⟨x, hx, hb, _⟩ := hd
        have := mb_cut hm (by omega : v < 6) hS (List.any_eq_true.2 ⟨x, hx, hb⟩)
        unfold stepZ
        rw [mb_gr hm (woZ_sets hS)]
        omega
      obtain ⟨h1, h2⟩ := ih (stepZ v G) (gr_nodup _) (stepZ_sets hS) hlt2
      exact ⟨.head v hv hd h1, h2⟩

theorem redZ_is {m : Nat} (hm : m ≤ 6) {zs N : List Int} (hS : Sets m zs) (h : Red m (grZ zs) N) (hd : Done m N) : N = redZ m zs := by
  obtain ⟨h1, h2⟩ := redF_is hm 7 (grZ zs) (gr_nodup _) (gr_sets hS) (by have := mbN_le (grZ zs); omega)
  exact h.unique hm hd h1 h2 (gr_sets hS)

/-- The model is through: nothing changed in a round. -/
theorem RedS.done {m : Nat} (hm : m ≤ 6) {zs out : List Int} {st : Nat} (h : RedS m zs out st) (hz : Sets m zs) (ha : Apart out out.length) (hc : ∀ v, v < 6 → out.countP (Bt v) ≠ 1) :
    simpZ out = redZ m zs ∧ out.length = (redZ m zs).length ∧ (∀ z, z ∈ out ↔ z ∈ redZ m zs) ∧ st + mbN (redZ m zs) + (redZ m zs).length = mbN zs + zs.length := by
  obtain ⟨hS, hr, he⟩ := h
  obtain ⟨h1, h2, h3⟩ := apart_gr hm hS ha
  have hd : Done m (grZ out) := fun v hv h => hc v (by omega) ((d1_cnt h2 h1).1 h)
  have e := redZ_is hm hz hr hd
  have hl : out.length = (grZ out).length := by
    have hp : out.Perm (grZ out) := (List.perm_ext_iff_of_nodup h2 (gr_nodup _)).2 fun z => (h1 z).symm
    exact hp.length_eq
  rw [← e]
  refine ⟨h3, hl, fun z => (h1 z).symm, ?_⟩
  rw [mb_gr hm hS, ← hl]
  exact he

end Go.Proofs.YtacglafoahmcnaaDoor

/- It is proved what EarFalls and EarSteps of the model return; conditions: those of each statement. -/
namespace Go.Proofs.YtacglafoahmcnaaDoor
open Go.RowKit

theorem redZ_done {k : Nat} (hk6 : k ≤ 6) {zs : List Int} (hz : Sets k zs) : Red k (grZ zs) (redZ k zs) ∧ Done k (redZ k zs) :=
  redF_is hk6 7 (grZ zs) (gr_nodup _) (gr_sets hz) (by have := mbN_le (grZ zs); omega)

theorem redZ_sets {k : Nat} (hk6 : k ≤ 6) {zs : List Int} (hz : Sets k zs) : Sets k (redZ k zs) := (redZ_done hk6 hz).1.sets (gr_sets hz)
end Go.Proofs.YtacglafoahmcnaaDoor
