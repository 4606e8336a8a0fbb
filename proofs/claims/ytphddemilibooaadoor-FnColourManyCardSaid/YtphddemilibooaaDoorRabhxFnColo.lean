/- It is proved how all lists of colours follow on each other and how many kinds of colours a list has; conditions: those of each statement. -/
import Derived.RangeFuncNested
import Derived.RangeFuncBound
import Derived.RangeFuncCalls
import Derived.RangeFuncLeaves
import Derived.RangeFuncBox
import Derived.RangeFuncWrites
import Derived.RowKit
import Derived.Laws.CopyRow
import Derived.Lib.SlBuf
import Derived.Deep.QuietTactic
import Derived.StillTailTactics
import Derived.Maps.OwnIn
import Derived.Maps.Ext
import Derived.DeepKeys4
import Derived.MapKept
import Derived.Test.YtphddemilibooaaDoorRows
import Derived.WalkKit
import Derived.WalkSpells
import Derived.ProofKit
import Derived.OpenShut
import Derived.ShutString
import Derived.ChangeOld
import Derived.Below
import Derived.Deep.RegionHeld3
import Derived.BigQuiet
import Derived.Lib.Hide
import Derived.Lib.SmallJoins
import Derived.Outline
import Derived.Laws.MakeOwn
import Derived.Laws.OwnMore
import Derived.IntWalk
import Derived.Lib.AppendZeros
import Derived.Maps.AppendAt
import Derived.Deep.AppendLies
import Derived.OwnWalk
import Derived.Lib.SlicesCompact
import Derived.Lib.OwnBridge
import Derived.OrdersIn
import Derived.TacticsIn
import Derived.Shelf.Sort.Plain
import Derived.Shelf.Slices.In.SortNone
import Derived.Shelf.Slices.CompactI
import Derived.Ground.Names2Prog
import Derived.Lib.SliceRun
import Derived.Shelf.Abstract
import Derived.Shelf.RegionOpen
import Derived.OwnWalkIn
import Derived.TacticsInMore
import Derived.LoopNIn
import Derived.LoopIn
import Derived.StillTail
import Derived.StillTactics
import Derived.Shelf.Spec.TrailingZeros
import Derived.Test.YtphddemilibooaaDoorRaal
import Derived.Test.YtphddemilibooaaDoorKc
import Derived.Test.YtphddemilibooaaDoorRaad
import Derived.Test.YtphddemilibooaaDoorRaaj
import Derived.Test.YtphddemilibooaaDoorYa
import Derived.Deep.RegionWith
import Derived.Deep.RegionLaw
import Derived.Test.YtphddemilibooaaDoorRaaa
import Derived.Test.YtphddemilibooaaDoorDb
import Derived.Test.YtphddemilibooaaDoorRaar
import Derived.Test.YtphddemilibooaaDoorRaab
namespace Go.Proofs.YtphddemilibooaaDoor

/-- All lists of n of a palette, in order. -/
def wordsL {γ : Type} (pal : List γ) : Nat → List (List γ)
  | 0 => [[]]
  | n + 1 => pal.flatMap fun c => (wordsL pal n).map (c :: ·)

theorem wordsL_mem {γ : Type} (pal : List γ) : ∀ (n : Nat) (w : List γ), w ∈ wordsL pal n ↔ w.length = n ∧ ∀ c ∈ w, c ∈ pal
  | 0, w => by
    simp only [wordsL, List.mem_singleton]
    constructor
    · rintro rfl; simp
    · rintro ⟨h, -⟩; exact List.eq_nil_of_length_eq_zero h
  | n + 1, w => by
    simp only [wordsL, List.mem_flatMap, List.mem_map]
    constructor
    · rintro ⟨c, hc, u, hu, rfl⟩
      obtain ⟨h1, h2⟩ := (wordsL_mem pal n u).1 hu
      refine ⟨by simp [h1], fun x hx => ?_⟩
      rcases List.mem_cons.1 hx with rfl | h
      · exact hc
      · exact h2 x h
    · rintro ⟨h1, h2⟩
      cases w with
      | nil => simp at h1
      | cons c u => exact ⟨c, h2 c (by simp), u, (wordsL_mem pal n u).2 ⟨by simpa using h1, fun x hx => h2 x (by simp [hx])⟩, rfl⟩

theorem wordsL_card {γ : Type} (pal : List γ) : ∀ n : Nat, (wordsL pal n).length = pal.length ^ n
  | 0 => rfl
  | n + 1 => by
    have hc : ∀ (l : List γ), (l.flatMap fun c => (wordsL pal n).map (c :: ·)).length = l.length * pal.length ^ n := by
      intro l
      induction l with
      | nil => simp
      | cons c l ih => rw [List.flatMap_cons, List.length_append, ih, List.length_map, wordsL_card pal n, List.length_cons, Nat.succ_mul, Nat.add_comm]
    rw [wordsL, hc, Nat.pow_succ, Nat.mul_comm]

theorem wordsL_snoc {γ : Type} (pal : List γ) : ∀ n : Nat, wordsL pal (n + 1) = (wordsL pal n).flatMap fun p => pal.map fun c => p ++ [c]
  | 0 => by
    simp only [wordsL, List.flatMap_cons, List.flatMap_nil, List.append_nil, List.nil_append, List.map_cons, List.map_nil]
    induction pal with
    | nil => rfl
    | cons c l ih => simpa using ih
  | n + 1 => by
    have ih := wordsL_snoc pal n
    show (pal.flatMap fun c => (wordsL pal (n + 1)).map (c :: ·)) = (pal.flatMap fun c => (wordsL pal n).map (c :: ·)).flatMap fun p => pal.map fun c => p ++ [c]
    rw [ih, List.flatMap_assoc]
    congr 1
    funext c
    rw [List.map_flatMap, List.flatMap_map]
    congr 1
    funext p
    rw [List.map_map]
    rfl

/-- The digits of a number to the base k. -/
def digs (k : Nat) : Nat → Nat → List Int
  | 0, _ => []
  | n + 1, c => digs k n (c / k) ++ [((c % k : Nat) : Int)]

theorem digs_len (k : Nat) : ∀ n c, (digs k n c).length = n
  | 0, _ => rfl
  | n + 1, c => by rw [digs, List.length_append, digs_len k n]; rfl

theorem range_mul (b : Nat) : ∀ a : Nat, List.range (a * b) = (List.range a).flatMap fun q => (List.range b).map (q * b + ·)
  | 0 => by simp
  | a + 1 => by
    rw [Nat.succ_mul, List.range_add, range_mul b a, List.range_succ, List.flatMap_append]
    simp

/-- The palette of k colours. -/
def palI (k : Nat) : List Int := (List.range k).map fun (c : Nat) => (c : Int)

theorem palI_len (k : Nat) : (palI k).length = k := by simp [palI]
theorem palI_mem (k : Nat) (c : Int) : c ∈ palI k ↔ 0 ≤ c ∧ c < k := by
  simp only [palI, List.mem_map, List.mem_range]
  constructor
  · rintro ⟨x, hx, rfl⟩; omega
  · intro h; exact ⟨c.toNat, by omega, by omega⟩

theorem digs_words (k : Nat) : ∀ n : Nat, (List.range (k ^ n)).map (digs k n) = wordsL (palI k) n
  | 0 => rfl
  | n + 1 => by
    rw [wordsL_snoc, ← digs_words k n, Nat.pow_succ, range_mul, List.map_flatMap, List.flatMap_map]
    congr 1
    funext q
    rw [List.map_map, palI, List.map_map]
    apply List.map_congr_left
    intro r hr
    have hr : r < k := List.mem_range.1 hr
    simp only [Function.comp, digs]
    rw [Nat.mul_comm q k, Nat.mul_add_div (by omega), Nat.div_eq_of_lt hr, Nat.mul_add_mod, Nat.mod_eq_of_lt hr, Nat.add_zero]

/-- The kinds of colours, one by one. -/
def addK {γ : Type} [BEq γ] (ks : List γ) (c : γ) : List γ := if ks.contains c then ks else ks ++ [c]

def kindsOf {γ : Type} [BEq γ] (l : List γ) : List γ := l.foldl addK []
theorem kindsOf_snoc {γ : Type} [BEq γ] (l : List γ) (c : γ) : kindsOf (l ++ [c]) = addK (kindsOf l) c := by simp [kindsOf, List.foldl_append]
theorem kinds_inv {γ : Type} [BEq γ] [LawfulBEq γ] (l : List γ) : (kindsOf l).Nodup ∧ (∀ c, c ∈ kindsOf l ↔ c ∈ l) ∧ (kindsOf l).length ≤ l.length := by
  have H : ∀ r : List γ, ∀ l, l = r.reverse → (kindsOf l).Nodup ∧ (∀ c, c ∈ kindsOf l ↔ c ∈ l) ∧ (kindsOf l).length ≤ l.length := by
    intro r
    induction r with
    | nil => rintro l rfl; simp [kindsOf]
    | cons a r ih =>
      rintro l rfl
      obtain ⟨h1, h2, h3⟩ := ih _ rfl
      rw [List.reverse_cons, kindsOf_snoc, addK]
      by_cases hc : (kindsOf r.reverse).contains a = true
      · rw [if_pos hc]
        have ha : a ∈ kindsOf r.reverse := by simpa using hc
        refine ⟨h1, fun c => ?_, by simp at h3 ⊢; omega⟩
        rw [h2, List.mem_append, List.mem_singleton]
        constructor
        · exact Or.inl
        · rintro (h | rfl)
          · exact h
          · exact (h2 _).1 ha
      · rw [if_neg hc]
        have ha : a ∉ kindsOf r.reverse := by simpa using hc
        refine ⟨?_, fun c => ?_, by simp at h3 ⊢; omega⟩
        · rw [List.nodup_append]
          refine ⟨h1, by simp, ?_⟩
          intro x hx y hy e
          rw [List.mem_singleton] at hy
          subst hy; subst e
          exact ha hx
        · rw [List.mem_append, List.mem_append, h2]
  exact H l.reverse l (by simp)

theorem kinds_two {γ : Type} [BEq γ] [LawfulBEq γ] (l : List γ) : 1 < (kindsOf l).length ↔ ∃ a ∈ l, ∃ b ∈ l, a ≠ b := by
  obtain ⟨h1, h2, h3⟩ := kinds_inv l
  constructor
  · intro h
    match hk : kindsOf l with
    | [] => rw [hk] at h; simp at h
    | [_] => rw [hk] at h; simp at h
    | a :: b :: r =>
      refine ⟨a, (h2 a).1 (by rw [hk]; simp), b, (h2 b).1 (by rw [hk]; simp), ?_⟩
      rw [hk] at h1
      rintro rfl
      simp at h1
  · rintro ⟨a, ha, b, hb, hab⟩
    have ha' := (h2 a).2 ha
    have hb' := (h2 b).2 hb
    match hk : kindsOf l with
    | [] => rw [hk] at ha'; simp at ha'
    | [c] =>
      rw [hk] at ha' hb'
      rw [List.mem_singleton] at ha' hb'
      exact absurd (ha'.trans hb'.symm) hab
    | _ :: _ :: _ => simp

theorem kinds_all {γ : Type} [BEq γ] [LawfulBEq γ] (l : List γ) : (kindsOf l).length = l.length ↔ l.Nodup := by
  have H : ∀ r : List γ, ∀ l, l = r.reverse → ((kindsOf l).length = l.length ↔ l.Nodup) := by
    intro r
    induction r with
    | nil => rintro l rfl; simp [kindsOf]
    | cons a r ih =>
      rintro l rfl
      have ih := ih _ rfl
      obtain ⟨h1, h2, h3⟩ := kinds_inv r.reverse
      rw [List.reverse_cons, kindsOf_snoc, addK]
      by_cases hc : (kindsOf r.reverse).contains a = true
      · rw [if_pos hc]
        have ha : a ∈ r.reverse := (h2 a).1 (by simpa using hc)
        constructor
        · intro h; rw [List.length_append] at h; simp at h h3; omega
        · intro h
          rw [List.nodup_append] at h
          exact absurd rfl (h.2.2 a ha a (by simp))
      · rw [if_neg hc]
        have ha : a ∉ r.reverse := fun h => hc (by simpa using (h2 a).2 h)
        rw [List.length_append, List.length_append, List.nodup_append]
        constructor
        · intro h
          refine ⟨ih.1 (by simp at h ⊢; omega), by simp, ?_⟩
          intro x hx y hy e
          rw [List.mem_singleton] at hy
          subst hy; subst e
          exact ha hx
        · rintro ⟨h, -, -⟩
          rw [ih.2 h]
  exact H l.reverse l (by simp)

end Go.Proofs.YtphddemilibooaaDoor

/- It is proved which colours are mixed and which are proper, and that colours may be exchanged; conditions: those of each statement. -/
namespace Go.Proofs.YtphddemilibooaaDoor

/-- The colours of the members of a club, one by one. -/
def colsZ (c : List Int) (z : Int) : List Int := (mem z.toNat).map fun v => c[v]?.getD 0

def mixZ (c : List Int) (z : Int) : Bool := decide (1 < (kindsOf (colsZ c z)).length)
def propZ (c : List Int) (z : Int) : Bool := decide ((kindsOf (colsZ c z)).length = (mem z.toNat).length)
def mixB (zs : List Int) (c : List Int) : Bool := zs.all (mixZ c)
def proB (zs : List Int) (c : List Int) : Bool := zs.all (propZ c)
theorem mixZ_iff {c : List Int} {z : Int} : mixZ c z = true ↔ ∃ v ∈ mem z.toNat, ∃ w ∈ mem z.toNat, c[v]?.getD 0 ≠ c[w]?.getD 0 := by
  rw [mixZ, decide_eq_true_iff, kinds_two]
  simp only [colsZ, List.mem_map]
  constructor
  · rintro ⟨a, ⟨v, hv, rfl⟩, b, ⟨w, hw, rfl⟩, hne⟩; exact ⟨v, hv, w, hw, hne⟩
  · rintro ⟨v, hv, w, hw, hne⟩; exact ⟨_, ⟨v, hv, rfl⟩, _, ⟨w, hw, rfl⟩, hne⟩

theorem mem_nodS (s : Nat) : (mem s).Nodup := List.nodup_range.filter _
theorem nodup_map {α β : Type} {f : α → β} : ∀ {l : List α}, l.Nodup → ((l.map f).Nodup ↔ ∀ a ∈ l, ∀ b ∈ l, f a = f b → a = b)
  | [], _ => by simp
  | x :: l, h => by
    rw [List.nodup_cons] at h
    rw [List.map_cons, List.nodup_cons, nodup_map h.2]
    constructor
    · rintro ⟨h1, h2⟩ a ha b hb e
      rcases List.mem_cons.1 ha with ea | ha'
      · rcases List.mem_cons.1 hb with eb | hb'
        · rw [ea, eb]
        · exact absurd (List.mem_map.2 ⟨b, hb', by rw [← e, ea]⟩) h1
      · rcases List.mem_cons.1 hb with eb | hb'
        · exact absurd (List.mem_map.2 ⟨a, ha', by rw [e, eb]⟩) h1
        · exact h2 a ha' b hb' e
    · intro H
      refine ⟨fun hx => ?_, fun a ha b hb => H a (by simp [ha]) b (by simp [hb])⟩
      obtain ⟨b, hb, e⟩ := List.mem_map.1 hx
      have := H b (by simp [hb]) x (by simp) e
      subst this
      exact h.1 hb

theorem propZ_iff {c : List Int} {z : Int} : propZ c z = true ↔ ∀ v ∈ mem z.toNat, ∀ w ∈ mem z.toNat, c[v]?.getD 0 = c[w]?.getD 0 → v = w := by
  have h := kinds_all (colsZ c z)
  rw [propZ, decide_eq_true_iff, show (mem z.toNat).length = (colsZ c z).length from by simp [colsZ], h, colsZ, nodup_map (mem_nodS _)]

/-- The model's question: two members that differ. -/
def mixM (c : List Int) (z : Int) : Bool := (List.range c.length).any fun v => (List.range v).any fun w => Bt v z && Bt w z && (c[v]?.getD 0 != c[w]?.getD 0)

theorem mem_bt {z : Int} {v : Nat} (hz : z.toNat < 64) : v ∈ mem z.toNat ↔ Bt v z = true := mem_bit2 hz
theorem bt_len {c : List Int} {z : Int} (hc : c.length ≤ 6) (hz : z.toNat < 2 ^ c.length) {v : Nat} (h : Bt v z = true) : v < c.length :=
  mem_lt _ hc _ hz v ((mem_bt (Nat.lt_of_lt_of_le hz (Nat.pow_le_pow_right (n := 2) (by decide) hc))).2 h)

theorem mixM_is {c : List Int} {z : Int} (hc : c.length ≤ 6) (hz : z.toNat < 2 ^ c.length) : mixM c z = mixZ c z := by
  have h64 : z.toNat < 64 := Nat.lt_of_lt_of_le hz (Nat.pow_le_pow_right (n := 2) (by decide) hc)
  rw [Bool.eq_iff_iff, mixZ_iff]
  simp only [mixM, List.any_eq_true, List.mem_range, Bool.and_eq_true, bne_iff_ne, mem_bt h64]
  constructor
  · rintro ⟨v, hv, w, hw, ⟨h1, h2⟩, h3⟩; exact ⟨v, h1, w, h2, h3⟩
  · rintro ⟨v, hv, w, hw, hne⟩
    rcases Nat.lt_trichotomy v w with h | rfl | h
    · exact ⟨w, bt_len hc hz hw, v, h, ⟨hw, hv⟩, fun e => hne e.symm⟩
    · exact absurd rfl hne
    · exact ⟨v, bt_len hc hz hv, w, h, ⟨hv, hw⟩, hne⟩

/-- The model's question for proper colours, by pairs. -/
def pairB (zs : List Int) (v w : Nat) : Bool := decide (v ≠ w) && zs.any fun z => Bt v z && Bt w z

def proM (zs : List Int) (c : List Int) : Bool := (List.range c.length).all fun v => (List.range v).all fun w => !pairB zs v w || (c[v]?.getD 0 != c[w]?.getD 0)
theorem proM_is {zs : List Int} {c : List Int} (hc : c.length ≤ 6) (hz : Sets c.length zs) : proM zs c = proB zs c := by
  rw [Bool.eq_iff_iff]
  simp only [proM, proB, List.all_eq_true, List.mem_range, Bool.or_eq_true, Bool.not_eq_true', bne_iff_ne, pairB, Bool.and_eq_false_iff, decide_eq_false_iff_not, List.any_eq_false, Bool.and_eq_true]
  have h64 : ∀ z ∈ zs, z.toNat < 64 := fun z h => Nat.lt_of_lt_of_le (hz z h).2 (Nat.pow_le_pow_right (n := 2) (by decide) hc)
  constructor
  · intro H z hzz
    rw [propZ_iff]
    intro v hv w hw e
    rw [mem_bt (h64 z hzz)] at hv hw
    have hlv := bt_len hc (hz z hzz).2 hv
    have hlw := bt_len hc (hz z hzz).2 hw
    rcases Nat.lt_trichotomy v w with h | h | h
    · rcases H w hlw v h with (h1 | h1) | h1
      · exact absurd (fun e => by omega) h1
      · exact absurd ⟨hw, hv⟩ (h1 z hzz)
      · exact absurd e.symm h1
    · exact h
    · rcases H v hlv w h with (h1 | h1) | h1
      · exact absurd (fun e => by omega) h1
      · exact absurd ⟨hv, hw⟩ (h1 z hzz)
      · exact absurd e h1
  · intro H v hv w hw
    by_cases he : c[v]?.getD 0 = c[w]?.getD 0
    · refine .inl (.inr fun z hzz hb => ?_)
      have := propZ_iff.1 (H z hzz) v ((mem_bt (h64 z hzz)).2 hb.1) w ((mem_bt (h64 z hzz)).2 hb.2) he
      omega
    · exact .inr he

/-- Colours are exchanged: a map that keeps different colours apart. -/
theorem mix_map {zs : List Int} {c : List Int} {f : Int → Int} (hc : c.length ≤ 6) (hz : Sets c.length zs) (hf : ∀ a ∈ c, ∀ b ∈ c, f a = f b → a = b) : mixB zs (c.map f) = mixB zs c ∧ proB zs (c.map f) = proB zs c := by
  have h64 : ∀ z ∈ zs, z.toNat < 64 := fun z h => Nat.lt_of_lt_of_le (hz z h).2 (Nat.pow_le_pow_right (n := 2) (by decide) hc)
  have hat : ∀ z ∈ zs, ∀ v ∈ mem z.toNat, ∃ a ∈ c, c[v]?.getD 0 = a ∧ (c.map f)[v]?.getD 0 = f a := fun z hzz v hv => by
    have hl := bt_len hc (hz z hzz).2 ((mem_bt (h64 z hzz)).1 hv)
    refine ⟨c[v], List.getElem_mem hl, by simp [hl], by simp [hl]⟩
  have hiff : ∀ z ∈ zs, ∀ v ∈ mem z.toNat, ∀ w ∈ mem z.toNat, ((c.map f)[v]?.getD 0 = (c.map f)[w]?.getD 0 ↔ c[v]?.getD 0 = c[w]?.getD 0) := fun z hzz v hv w hw => by
    obtain ⟨a, ha, e1, e2⟩ := hat z hzz v hv
    obtain ⟨b, hb, e3, e4⟩ := hat z hzz w hw
    rw [e1, e2, e3, e4]
    exact ⟨hf a ha b hb, fun e => by rw [e]⟩
  constructor
  · rw [Bool.eq_iff_iff, mixB, mixB, List.all_eq_true, List.all_eq_true]
    refine forall_congr' fun z => forall_congr' fun hzz => ?_
    rw [mixZ_iff, mixZ_iff]
    constructor
    · rintro ⟨v, hv, w, hw, h⟩; exact ⟨v, hv, w, hw, fun e => h ((hiff z hzz v hv w hw).2 e)⟩
    · rintro ⟨v, hv, w, hw, h⟩; exact ⟨v, hv, w, hw, fun e => h ((hiff z hzz v hv w hw).1 e)⟩
  · rw [Bool.eq_iff_iff, proB, proB, List.all_eq_true, List.all_eq_true]
    refine forall_congr' fun z => forall_congr' fun hzz => ?_
    rw [propZ_iff, propZ_iff]
    constructor
    · intro H v hv w hw e; exact H v hv w hw ((hiff z hzz v hv w hw).2 e)
    · intro H v hv w hw e; exact H v hv w hw ((hiff z hzz v hv w hw).1 e)

/-- All lists, with colours exchanged, are all lists in some order. -/
theorem flat_perm {α β : Type} {f g : α → List β} (h : ∀ a, (f a).Perm (g a)) : ∀ l : List α, (l.flatMap f).Perm (l.flatMap g)
  | [] => .refl _
  | a :: l => by
    rw [List.flatMap_cons, List.flatMap_cons]
    exact (h a).append (flat_perm h l)

theorem words_perm {γ : Type} {pal pal' : List γ} (h : pal.Perm pal') : ∀ n, (wordsL pal n).Perm (wordsL pal' n)
  | 0 => .refl _
  | n + 1 => (flat_perm (fun c => (words_perm h n).map (c :: ·)) pal).trans (h.flatMap_right _)

theorem words_map {γ δ : Type} (f : γ → δ) (pal : List γ) : ∀ n, (wordsL pal n).map (List.map f) = wordsL (pal.map f) n
  | 0 => rfl
  | n + 1 => by
    simp only [wordsL, List.map_flatMap, List.flatMap_map, List.map_map, ← words_map f pal n]
    rfl

/-- 0 and another colour are exchanged. -/
def swapC (j c : Int) : Int := if c = 0 then j else if c = j then 0 else c

theorem swap_inj {j a b : Int} (h : swapC j a = swapC j b) : a = b := by
  unfold swapC at h
  repeat' split at h
  all_goals omega

theorem nodup_pal (k : Nat) : (palI k).Nodup := by
  rw [palI, nodup_map List.nodup_range]
  intro a _ b _ h
  omega

theorem pal_swap {k : Nat} {j : Int} (h0 : 0 ≤ j) (hj : j < k) : ((palI k).map (swapC j)).Perm (palI k) := by
  refine (List.perm_ext_iff_of_nodup ((nodup_map (nodup_pal k)).2 (fun a _ b _ h => swap_inj h)) (nodup_pal k)).2 fun c => ?_
  rw [List.mem_map]
  simp only [palI_mem]
  constructor
  · rintro ⟨a, ha, rfl⟩
    unfold swapC
    repeat' split
    all_goals omega
  · intro hc
    refine ⟨swapC j c, ?_, ?_⟩
    all_goals unfold swapC
    all_goals repeat' split
    all_goals omega

/-- What abides when colours are exchanged. -/
def Swaps (n : Nat) (k : Nat) (P : List Int → Bool) : Prop := ∀ j : Int, 0 ≤ j → j < k → ∀ c ∈ wordsL (palI k) n, P (c.map (swapC j)) = P c

theorem cnt_head {k n : Nat} {P : List Int → Bool} (h : Swaps (n + 1) k P) {j : Int} (h0 : 0 ≤ j) (hj : j < k) :
    (wordsL (palI k) n).countP (fun u => P (j :: u)) = (wordsL (palI k) n).countP (fun u => P (0 :: u)) := by
  have h1 := (words_perm (pal_swap h0 hj) n).countP_eq (fun u => P (0 :: u))
  rw [← words_map, List.countP_map] at h1
  rw [← h1]
  apply List.countP_congr
  intro u hu
  have hm : (j :: u) ∈ wordsL (palI k) (n + 1) := by
    rw [wordsL_mem] at hu ⊢
    refine ⟨by simp [hu.1], fun c hc => ?_⟩
    rcases List.mem_cons.1 hc with rfl | hc
    · exact (palI_mem _ _).2 ⟨h0, hj⟩
    · exact hu.2 c hc
  have := h j h0 hj (j :: u) hm
  simp only [Function.comp]
  rw [← this, List.map_cons, show swapC j j = 0 from by unfold swapC; split <;> simp_all]

theorem swap_cnt {k n : Nat} {P : List Int → Bool} (h : Swaps (n + 1) k P) : (wordsL (palI k) (n + 1)).countP P = k * (wordsL (palI k) n).countP (fun u => P (0 :: u)) := by
  have H : ∀ l : List Int, (∀ j ∈ l, 0 ≤ j ∧ j < k) → (l.flatMap fun c => (wordsL (palI k) n).map (c :: ·)).countP P = l.length * (wordsL (palI k) n).countP (fun u => P (0 :: u)) := by
    intro l
    induction l with
    | nil => intro _; simp
    | cons j l ih =>
      intro hl
      obtain ⟨h0, hj⟩ := hl j (by simp)
      rw [List.flatMap_cons, List.countP_append, ih (fun i hi => hl i (by simp [hi])), List.countP_map, List.length_cons, Nat.succ_mul, Nat.add_comm]
      congr 1
      exact cnt_head h h0 hj
  rw [wordsL, H _ (fun j hj => (palI_mem _ _).1 hj), palI_len]

theorem mix_swaps {zs : List Int} {n k : Nat} (hn : n ≤ 6) (hz : Sets n zs) : Swaps n k (mixB zs) := fun j _ _ c hc => by
  obtain ⟨h1, -⟩ := (wordsL_mem _ _ _).1 hc
  exact (mix_map (by omega) (by rw [h1]; exact hz) (fun a _ b _ e => swap_inj e)).1

theorem pro_swaps {zs : List Int} {n k : Nat} (hn : n ≤ 6) (hz : Sets n zs) : Swaps n k (proB zs) := fun j _ _ c hc => by
  obtain ⟨h1, -⟩ := (wordsL_mem _ _ _).1 hc
  exact (mix_map (by omega) (by rw [h1]; exact hz) (fun a _ b _ e => swap_inj e)).2

end Go.Proofs.YtphddemilibooaaDoor

/- It is proved that a drawn family and a drawn set are the call's own; conditions: those of each statement. -/
namespace Go.Proofs.YtphddemilibooaaDoor
open Go.RowKit

/-- A family of the call's own, and a number. -/
def DrawnTwo (w : World) (e : Ending) (W : World) : Prop :=
  ∃ (m : Int) (a : Option Addr) (zs : List Int) (c : Nat) (x : Int), e = .returned (.tuple #[.agg #[.int .i64 m, .slice a zs.length c], .int .i64 x]) ∧ zs.length ≤ 10 ∧ OwnI W w.heap.size (.slice a zs.length c) zs ∧ Below w.heap.size w W

theorem DS.belowR {w W : World} {R : Nat} {b : Option Addr} {n cap P B : Nat} (h : DS w R b n cap P W) (hB : B ≤ R) (hs : B ≤ w.heap.size) : Below B w W :=
  (Below.refl B w).grown h.gr hs (fun g e => by injection e with e; omega)

end Go.Proofs.YtphddemilibooaaDoor

/- It is proved that the family and the number of colours drawn from bytes are the call's own; conditions: those of each statement. -/
namespace Go.Proofs.YtphddemilibooaaDoor
open Go.RowKit

set_option maxRecDepth 100000 in
set_option maxHeartbeats 4000000 in
theorem colD_any (a : Option Addr) (n cap : Nat) (w : World) (hb : Bys w w.heap.size a n) (hn : n ≤ 1048576) (hc : n ≤ cap) (hc2 : cap ≤ 9223372036854775807) :
    Calls Tryd.prog 43 #[.slice a n cap] w (DrawnTwo w) := by
  have ha : n ≠ 0 → ∃ g off, a = some ⟨g, off, none⟩ := fun h => by obtain ⟨g, off, e, _⟩ := hb.resolve_left h; exact ⟨g, off, e⟩
  have HB := Lib.hid hb
  clear hb
  go_enter Tryd.func43, Tryd.ntmps43
  go_wp2_with fail
  refine (openD_any a n cap _ hn hc hc2 ha).mono ?_
  rintro e w1 ⟨k, hk, rfl, rfl⟩
  have b1 := below2 w (.cells #[.int .i64 0, .slice none 0 0] 25) (.cells #[.slice a k cap, .int .i64 0] 77)
  have HD1 : Hid (DS ((w.alloc (.cells #[.int .i64 0, .slice none 0 0] 25)).alloc (.cells #[.slice a k cap, .int .i64 0] 77)) (w.heap.size + 1) a k cap 0 ((w.alloc (.cells #[.int .i64 0, .slice none 0 0] 25)).alloc (.cells #[.slice a k cap, .int .i64 0] 77))) := Lib.hid ⟨⟨0, Nat.le_refl _, alloc2_1 w _ _⟩, World.grownBy.refl _ _⟩
  have HB1 := Lib.hid ((HB.out.below b1).fewer (B' := w.heap.size + 1) (by omega) hk)
  have HX : Hid (HasBlk ((w.alloc (.cells #[.int .i64 0, .slice none 0 0] 25)).alloc (.cells #[.slice a k cap, .int .i64 0] 77)) w.heap.size #[.int .i64 0, .slice none 0 0] 25) := Lib.hid (alloc2_0 w _ _)
  have HBL := Lib.hid b1
  clear b1
  go_wp2_with fail
  refine (someD_any 5 6 5 6 rfl rfl (by decide) (by decide) (by decide) (w.heap.size + 1) a k cap 0 _ HD1.out HB1.out (by simp) (by omega) (by omega)).mono ?_
  rintro e w2 ⟨m, a2, zs, c2, rfl, ⟨hl, hm1, hm6⟩, ho, D2⟩
  have q0 : HasBlk w2 w.heap.size #[.int .i64 0, .slice none 0 0] 25 := HX.out.kept D2.gr (by simp)
  have hs2 : w.heap.size + 1 < w2.heap.size := by have := D2.gr.size; simp at this; omega
  have HRd : Hid (∃ p, p ≤ 200 ∧ Rd w2 (w.heap.size + 1) a k cap p) := Lib.hid (by obtain ⟨p, hp, h⟩ := D2.rd; exact ⟨p, by omega, h⟩)
  have HBy2 : Hid (Bys w2 (w.heap.size + 1) a k) := Lib.hid (HB1.out.kept (by simp) D2.gr)
  have HO : Hid (OwnI w2 (w.heap.size + 2) (.slice a2 zs.length c2) zs) := Lib.hid (own_mono ho (by simp))
  have HBW := Lib.hid (HBL.out.trans ((Below.refl w.heap.size _).grown D2.gr (by simp; omega) (fun g e => by injection e; omega)))
  have HQ0 := Lib.hid q0
  clear ho D2 q0 HX HD1 HB1 HBL
  have HD3 : Hid (DS (w2.alloc (.cells #[.int .i64 m, .slice a2 zs.length c2] 25)) (w.heap.size + 1) a k cap 200 (w2.alloc (.cells #[.int .i64 m, .slice a2 zs.length c2] 25))) := Lib.hid (by obtain ⟨p, hp, h⟩ := HRd.out; exact ⟨⟨p, hp, HasBlk.alloc h _⟩, World.grownBy.refl _ _⟩)
  have HBy3 : Hid (Bys (w2.alloc (.cells #[.int .i64 m, .slice a2 zs.length c2] 25)) (w.heap.size + 1) a k) := Lib.hid (HBy2.out.below ((below1 w2 _).mono (by omega)))
  have HX3 : Hid (HasBlk (w2.alloc (.cells #[.int .i64 m, .slice a2 zs.length c2] 25)) w2.heap.size #[.int .i64 m, .slice a2 zs.length c2] 25) := Lib.hid (alloc_new w2 _)
  have HQ3 : Hid (HasBlk (w2.alloc (.cells #[.int .i64 m, .slice a2 zs.length c2] 25)) w.heap.size #[.int .i64 0, .slice none 0 0] 25) := Lib.hid (HQ0.out.alloc _)
  have HO3 : Hid (OwnI (w2.alloc (.cells #[.int .i64 m, .slice a2 zs.length c2] 25)) (w.heap.size + 2) (.slice a2 zs.length c2) zs) := Lib.hid (World.ownsRow.alloc HO.out _)
  have HB3 := Lib.hid (HBW.out.trans ((below1 w2 (.cells #[.int .i64 m, .slice a2 zs.length c2] 25)).mono HBW.out.size))
  have hR3 : w.heap.size + 1 < (w2.alloc (.cells #[.int .i64 m, .slice a2 zs.length c2] 25)).heap.size := by simp; omega
  have hkn : k ≤ 1048576 := by omega
  obtain ⟨W3, hW3⟩ : ∃ W3, W3 = w2.alloc (.cells #[.int .i64 m, .slice a2 zs.length c2] 25) := ⟨_, rfl⟩
  go_wp2_with fail
  rw [← hW3]
  rw [← hW3] at HD3 HBy3 HX3 HQ3 HO3 HB3 hR3
  have x0 := (blk_cell HX3.out 0).trans (cell2_0 _ _)
  have x1 := (blk_cell HX3.out 1).trans (cell2_1 _ _)
  clear hW3 HRd HBy2 HQ0 HO HBW
  go_region_with (first
    | (go_at_call 62; refine (pickX D5 HBy3.out hR3 hkn (by omega) _).mono ?_; rintro e w6 ⟨r6, rfl, h6, D6, g6⟩; have q6 := blk_grown q5 g6 (by omega); have x0 := (blk_cell q6 0).trans (cell2_0 _ _); have x1 := (blk_cell q6 1).trans (cell2_1 _ _); have p6 := HasBlk.kept (p5) g6 (fun e => by injection e; omega); have d0 := (blk_cell p6 0).trans (cell2_0 _ _); have d1 := (blk_cell p6 1).trans (cell2_1 _ _); have f0 := blk_frozen p6 0; have f1 := blk_frozen p6 1)
    | (go_at_call 62; refine (pickX D4 HBy3.out hR3 hkn (by omega) _).mono ?_; rintro e w5 ⟨r5, rfl, h5, D5, g5⟩; have q5 := blk_grown q4 g5 (by omega); have x0 := (blk_cell q5 0).trans (cell2_0 _ _); have x1 := (blk_cell q5 1).trans (cell2_1 _ _); have p5 := HasBlk.kept (p4) g5 (fun e => by injection e; omega); have d0 := (blk_cell p5 0).trans (cell2_0 _ _); have d1 := (blk_cell p5 1).trans (cell2_1 _ _); have f0 := blk_frozen p5 0; have f1 := blk_frozen p5 1)
    | (go_at_call 62; refine (pickX HD3.out.drew HBy3.out hR3 hkn (by omega) _).mono ?_; rintro e w4 ⟨r4, rfl, h4, D4, g4⟩; have q4 := blk_grown (W := W3.drew) HX3.out g4 (by omega); have x0 := (blk_cell q4 0).trans (cell2_0 _ _); have x1 := (blk_cell q4 1).trans (cell2_1 _ _); have p4 := HasBlk.kept (W := W3.drew) (HQ3.out) g4 (fun e => by injection e; omega); have d0 := (blk_cell p4 0).trans (cell2_0 _ _); have d1 := (blk_cell p4 1).trans (cell2_1 _ _); have f0 := blk_frozen p4 0; have f1 := blk_frozen p4 1))
  all_goals
    have HOF : Hid (OwnI w6 (w.heap.size + 2) (.slice a2 zs.length c2) zs) := Lib.hid (own_grown (own_grown (own_grown (W := W3.drew) HO3.out g4 (by omega)) g5 (by omega)) g6 (by omega))
    have HBF := Lib.hid (HB3.out.trans (D6.belowR (B := w.heap.size) (by omega) (by omega)))
    clear HO3 HB3 D4 D5 D6 g4 g5 g6 p4 p5 q4 q5 q6 p6 HD3 HBy3 HX3 HQ3 x0 x1
    go_wp2
    refine bodyPost_ret (v := .tuple #[.agg #[.int .i64 m, .slice a2 zs.length c2], .int .i64 _]) (by simp [results, Tryd.results43, go_sem, d0, d1]; rfl) rfl ?_
    refine ⟨m, a2, zs, c2, _, rfl, by omega, ?_, ?_⟩
    · exact own_mono (ownsRow_setCell_below (ownsRow_setCell_below HOF.out (a := ⟨w.heap.size, 0, none⟩) (show w.heap.size < w.heap.size + 2 by omega) _) (a := ⟨w.heap.size, 1, none⟩) (show w.heap.size < w.heap.size + 2 by omega) _) (by omega)
    · exact (HBF.out.setCell (p := ⟨w.heap.size, 0, none⟩) (Nat.le_refl _) _).setCell (p := ⟨w.heap.size, 1, none⟩) (Nat.le_refl _) _

set_option maxRecDepth 100000 in
set_option maxHeartbeats 2000000 in
theorem drawColourMany_any (a : Option Addr) (n cap : Nat) (w : World) (hb : Bys w w.heap.size a n) (hn : n ≤ 1048576) (hc : n ≤ cap) (hc2 : cap ≤ 9223372036854775807) :
    Calls Tryd.prog 17 #[.slice a n cap] w (DrawnTwo w) := by
  have b1 := below1 w (.cells #[.int .i64 0, .slice none 0 0] 25)
  have HB := Lib.hid ((hb.below b1).fewer (B' := (w.alloc (.cells #[.int .i64 0, .slice none 0 0] 25)).heap.size) (by simp) (Nat.le_refl n))
  have HX : Hid (HasBlk (w.alloc (.cells #[.int .i64 0, .slice none 0 0] 25)) w.heap.size #[.int .i64 0, .slice none 0 0] 25) := Lib.hid (alloc_new w _)
  have HBL := Lib.hid b1
  clear hb b1
  go_enter Tryd.func17, Tryd.ntmps17
  go_wp2_with fail
  refine (colD_any a n cap _ HB.out hn hc hc2).mono ?_
  rintro e w2 ⟨m, a2, zs, c2, x, rfl, hl, ho, D2⟩
  have q0 : HasBlk w2 w.heap.size #[.int .i64 0, .slice none 0 0] 25 := (D2.block _ (by simp)).trans HX.out
  have d0 := (blk_cell q0 0).trans (cell2_0 _ _)
  have d1 := (blk_cell q0 1).trans (cell2_1 _ _)
  have f0 := blk_frozen q0 0
  have f1 := blk_frozen q0 1
  have HO : Hid (OwnI w2 (w.heap.size + 1) (.slice a2 zs.length c2) zs) := Lib.hid (own_mono ho (by simp))
  have HBW := Lib.hid (HBL.out.trans (D2.mono (by simp)))
  clear ho D2 q0
  go_wp2
  refine bodyPost_ret (v := .tuple #[.agg #[.int .i64 m, .slice a2 zs.length c2], .int .i64 x]) (by simp [results, Tryd.results17, go_sem, d0, d1]) rfl ?_
  refine ⟨m, a2, zs, c2, x, rfl, hl, ?_, ?_⟩
  · exact own_mono (ownsRow_setCell_below (ownsRow_setCell_below HO.out (a := ⟨w.heap.size, 0, none⟩) (show w.heap.size < w.heap.size + 1 by omega) _) (a := ⟨w.heap.size, 1, none⟩) (show w.heap.size < w.heap.size + 1 by omega) _) (by omega)
  · exact (HBW.out.setCell (p := ⟨w.heap.size, 0, none⟩) (Nat.le_refl _) _).setCell (p := ⟨w.heap.size, 1, none⟩) (Nat.le_refl _) _

set_option maxRecDepth 100000 in
set_option maxHeartbeats 2000000 in
theorem drawColourProper_any (a : Option Addr) (n cap : Nat) (w : World) (hb : Bys w w.heap.size a n) (hn : n ≤ 1048576) (hc : n ≤ cap) (hc2 : cap ≤ 9223372036854775807) :
    Calls Tryd.prog 21 #[.slice a n cap] w (DrawnTwo w) := by
  have b1 := below1 w (.cells #[.int .i64 0, .slice none 0 0] 25)
  have HB := Lib.hid ((hb.below b1).fewer (B' := (w.alloc (.cells #[.int .i64 0, .slice none 0 0] 25)).heap.size) (by simp) (Nat.le_refl n))
  have HX : Hid (HasBlk (w.alloc (.cells #[.int .i64 0, .slice none 0 0] 25)) w.heap.size #[.int .i64 0, .slice none 0 0] 25) := Lib.hid (alloc_new w _)
  have HBL := Lib.hid b1
  clear hb b1
  go_enter Tryd.func21, Tryd.ntmps21
  go_wp2_with fail
  refine (colD_any a n cap _ HB.out hn hc hc2).mono ?_
  rintro e w2 ⟨m, a2, zs, c2, x, rfl, hl, ho, D2⟩
  have q0 : HasBlk w2 w.heap.size #[.int .i64 0, .slice none 0 0] 25 := (D2.block _ (by simp)).trans HX.out
  have d0 := (blk_cell q0 0).trans (cell2_0 _ _)
  have d1 := (blk_cell q0 1).trans (cell2_1 _ _)
  have f0 := blk_frozen q0 0
  have f1 := blk_frozen q0 1
  have HO : Hid (OwnI w2 (w.heap.size + 1) (.slice a2 zs.length c2) zs) := Lib.hid (own_mono ho (by simp))
  have HBW := Lib.hid (HBL.out.trans (D2.mono (by simp)))
  clear ho D2 q0
  go_wp2
  refine bodyPost_ret (v := .tuple #[.agg #[.int .i64 m, .slice a2 zs.length c2], .int .i64 x]) (by simp [results, Tryd.results21, go_sem, d0, d1]) rfl ?_
  refine ⟨m, a2, zs, c2, x, rfl, hl, ?_, ?_⟩
  · exact own_mono (ownsRow_setCell_below (ownsRow_setCell_below HO.out (a := ⟨w.heap.size, 0, none⟩) (show w.heap.size < w.heap.size + 1 by omega) _) (a := ⟨w.heap.size, 1, none⟩) (show w.heap.size < w.heap.size + 1 by omega) _) (by omega)
  · exact (HBW.out.setCell (p := ⟨w.heap.size, 0, none⟩) (Nat.le_refl _) _).setCell (p := ⟨w.heap.size, 1, none⟩) (Nat.le_refl _) _

end Go.Proofs.YtphddemilibooaaDoor

/- It is proved what the method ask leaves in its map; conditions: those of each statement. -/
namespace Go.Proofs.YtphddemilibooaaDoor
open Go.RowKit Go.Shelf Go.Maps

attribute [local go_sem] Oper.semAt_some

theorem arr8 (x : Array Bool) (h : x.size = 8) : ∃ l0 l1 l2 l3 l4 l5 l6 l7 : Bool, x = #[l0, l1, l2, l3, l4, l5, l6, l7] := by
  obtain ⟨l⟩ := x
  match l, h with
  | [l0, l1, l2, l3, l4, l5, l6, l7], _ => exact ⟨_, _, _, _, _, _, _, _, rfl⟩

theorem ints_putObj {A : World} {B l : Nat} {o : Obj} {a : Option Addr} {zs : List Int} (h : Ints A B a zs) (hl : ∃ o', A.heap[l]? = some o' ∧ o'.isCells = false) : Ints (A.putObj l o) B a zs := by
  rcases h with h | ⟨g, off, e, hg, hc⟩
  · exact .inl h
  · by_cases hz : zs = []
    · exact .inl hz
    · refine .inr ⟨g, off, e, hg, fun j hj => ?_⟩
      have hne : g ≠ l := by
        rintro rfl
        obtain ⟨o', ho, hn⟩ := hl
        have := hc 0 (List.length_pos_iff.2 hz)
        cases o' <;> simp [World.cell?, ho] at this
        cases hn
      exact (World.cell?_of_block (a := ⟨g, off + j, none⟩) (World.putObj_heap_other hne)).trans (hc j hj)

end Go.Proofs.YtphddemilibooaaDoor
