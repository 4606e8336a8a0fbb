/- It is proved how all lists of colours follow on each other and how many kinds of colours a list has; conditions: those of each statement. -/
import Derived.RangeFuncNested
import Derived.RangeFuncBound
import Derived.RangeFuncCalls
import Derived.RangeFuncLeaves
import Derived.RangeFuncBox
import Derived.RangeFuncWrites
import Derived.RowKit
import Derived.Laws.CopyRow
import Derived.Lib.SlBuf
import Derived.Deep.QuietTactic
import Derived.StillTailTactics
import Derived.Maps.OwnIn
import Derived.Maps.Ext
import Derived.DeepKeys4
import Derived.MapKept
import Derived.Test.YtphddemilibooaaDoorRows
import Derived.WalkKit
import Derived.WalkSpells
import Derived.ProofKit
import Derived.OpenShut
import Derived.ShutString
import Derived.ChangeOld
import Derived.Below
import Derived.Deep.RegionHeld3
import Derived.BigQuiet
import Derived.Lib.Hide
import Derived.Lib.SmallJoins
import Derived.Outline
import Derived.Laws.MakeOwn
import Derived.Laws.OwnMore
import Derived.IntWalk
import Derived.Lib.AppendZeros
import Derived.Maps.AppendAt
import Derived.Deep.AppendLies
import Derived.OwnWalk
import Derived.Lib.SlicesCompact
import Derived.Lib.OwnBridge
import Derived.OrdersIn
import Derived.TacticsIn
import Derived.Shelf.Sort.Plain
import Derived.Shelf.Slices.In.SortNone
import Derived.Shelf.Slices.CompactI
import Derived.Ground.Names2Prog
import Derived.Lib.SliceRun
import Derived.Shelf.Abstract
import Derived.Shelf.RegionOpen
import Derived.OwnWalkIn
import Derived.TacticsInMore
import Derived.LoopNIn
import Derived.LoopIn
import Derived.StillTail
import Derived.StillTactics
import Derived.Shelf.Spec.TrailingZeros
import Derived.Test.YtphddemilibooaaDoorRaal
import Derived.Test.YtphddemilibooaaDoorKc
import Derived.Test.YtphddemilibooaaDoorRaad
import Derived.Test.YtphddemilibooaaDoorRaaj
import Derived.Test.YtphddemilibooaaDoorYa
import Derived.Test.YtphddemilibooaaDoorRaai
import Derived.Test.YtphddemilibooaaDoorRaae
import Derived.Sort.MapsRangeIn
import Derived.Deep.RegionLaw
import Derived.Deep.LoopGhost
import Derived.Test.YtphddemilibooaaDoorTb
import Derived.Test.YtphddemilibooaaDoorRaab
namespace Go.Proofs.YtphddemilibooaaDoor

/-- All lists of n of a palette, in order. -/
def wordsL {γ : Type} (pal : List γ) : Nat → List (List γ)
  | 0 => [[]]
  | n + 1 => pal.flatMap fun c => (wordsL pal n).map (c :: ·)

theorem wordsL_mem {γ : Type} (pal : List γ) : ∀ (n : Nat) (w : List γ), w ∈ wordsL pal n ↔ w.length = n ∧ ∀ c ∈ w, c ∈ pal
  | 0, w => by
    simp only [wordsL, List.mem_singleton]
    constructor
    · rintro rfl; simp
    · rintro ⟨h, -⟩; exact List.eq_nil_of_length_eq_zero h
  | n + 1, w => by
    simp only [wordsL, List.mem_flatMap, List.mem_map]
    constructor
    · rintro ⟨c, hc, u, hu, rfl⟩
      obtain ⟨h1, h2⟩ := (wordsL_mem pal n u).1 hu
      refine ⟨by simp [h1], fun x hx => ?_⟩
      rcases List.mem_cons.1 hx with rfl | h
      · exact hc
      · exact h2 x h
    · rintro ⟨h1, h2⟩
      cases w with
      | nil => simp at h1
      | cons c u => exact ⟨c, h2 c (by simp), u, (wordsL_mem pal n u).2 ⟨by simpa using h1, fun x hx => h2 x (by simp [hx])⟩, rfl⟩

theorem wordsL_card {γ : Type} (pal : List γ) : ∀ n : Nat, (wordsL pal n).length = pal.length ^ n
  | 0 => rfl
  | n + 1 => by
    have hc : ∀ (l : List γ), (l.flatMap fun c => (wordsL pal n).map (c :: ·)).length = l.length * pal.length ^ n := by
      intro l
      induction l with
      | nil => simp
      | cons c l ih => rw [List.flatMap_cons, List.length_append, ih, List.length_map, wordsL_card pal n, List.length_cons, Nat.succ_mul, Nat.add_comm]
    rw [wordsL, hc, Nat.pow_succ, Nat.mul_comm]

theorem wordsL_snoc {γ : Type} (pal : List γ) : ∀ n : Nat, wordsL pal (n + 1) = (wordsL pal n).flatMap fun p => pal.map fun c => p ++ [c]
  | 0 => by
    simp only [wordsL, List.flatMap_cons, List.flatMap_nil, List.append_nil, List.nil_append, List.map_cons, List.map_nil]
    induction pal with
    | nil => rfl
    | cons c l ih => simpa using ih
  | n + 1 => by
    have ih := wordsL_snoc pal n
    show (pal.flatMap fun c => (wordsL pal (n + 1)).map (c :: ·)) = (pal.flatMap fun c => (wordsL pal n).map (c :: ·)).flatMap fun p => pal.map fun c => p ++ [c]
    rw [ih, List.flatMap_assoc]
    congr 1
    funext c
    rw [List.map_flatMap, List.flatMap_map]
    congr 1
    funext p
    rw [List.map_map]
    rfl

/-- The digits of a number to the base k. -/
def digs (k : Nat) : Nat → Nat → List Int
  | 0, _ => []
  | n + 1, c => digs k n (c / k) ++ [((c % k : Nat) : Int)]

theorem digs_len (k : Nat) : ∀ n c, (digs k n c).length = n
  | 0, _ => rfl
  | n + 1, c => by rw [digs, List.length_append, digs_len k n]; rfl

theorem range_mul (b : Nat) : ∀ a : Nat, List.range (a * b) = (List.range a).flatMap fun q => (List.range b).map (q * b + ·)
  | 0 => by simp
  | a + 1 => by
    rw [Nat.succ_mul, List.range_add, range_mul b a, List.range_succ, List.flatMap_append]
    simp

/-- The palette of k colours. -/
def palI (k : Nat) : List Int := (List.range k).map fun (c : Nat) => (c : Int)

theorem palI_len (k : Nat) : (palI k).length = k := by simp [palI]
theorem palI_mem (k : Nat) (c : Int) : c ∈ palI k ↔ 0 ≤ c ∧ c < k := by
  simp only [palI, List.mem_map, List.mem_range]
  constructor
  · rintro ⟨x, hx, rfl⟩; omega
  · intro h; exact ⟨c.toNat, by omega, by omega⟩

theorem digs_words (k : Nat) : ∀ n : Nat, (List.range (k ^ n)).map (digs k n) = wordsL (palI k) n
  | 0 => rfl
  | n + 1 => by
    rw [wordsL_snoc, ← digs_words k n, Nat.pow_succ, range_mul, List.map_flatMap, List.flatMap_map]
    congr 1
    funext q
    rw [List.map_map, palI, List.map_map]
    apply List.map_congr_left
    intro r hr
    have hr : r < k := List.mem_range.1 hr
    simp only [Function.comp, digs]
    rw [Nat.mul_comm q k, Nat.mul_add_div (by omega), Nat.div_eq_of_lt hr, Nat.mul_add_mod, Nat.mod_eq_of_lt hr, Nat.add_zero]

/-- The kinds of colours, one by one. -/
def addK {γ : Type} [BEq γ] (ks : List γ) (c : γ) : List γ := if ks.contains c then ks else ks ++ [c]

def kindsOf {γ : Type} [BEq γ] (l : List γ) : List γ := l.foldl addK []
theorem kindsOf_snoc {γ : Type} [BEq γ] (l : List γ) (c : γ) : kindsOf (l ++ [c]) = addK (kindsOf l) c := by simp [kindsOf, List.foldl_append]
theorem kinds_inv {γ : Type} [BEq γ] [LawfulBEq γ] (l : List γ) : (kindsOf l).Nodup ∧ (∀ c, c ∈ kindsOf l ↔ c ∈ l) ∧ (kindsOf l).length ≤ l.length := by
  have H : ∀ r : List γ, ∀ l, l = r.reverse → (kindsOf l).Nodup ∧ (∀ c, c ∈ kindsOf l ↔ c ∈ l) ∧ (kindsOf l).length ≤ l.length := by
    intro r
    induction r with
    | nil => rintro l rfl; simp [kindsOf]
    | cons a r ih =>
      rintro l rfl
      obtain ⟨h1, h2, h3⟩ := ih _ rfl
      rw [List.reverse_cons, kindsOf_snoc, addK]
      by_cases hc : (kindsOf r.reverse).contains a = true
      · rw [if_pos hc]
        have ha : a ∈ kindsOf r.reverse := by simpa using hc
        refine ⟨h1, fun c => ?_, by simp at h3 ⊢; omega⟩
        rw [h2, List.mem_append, List.mem_singleton]
        constructor
        · exact Or.inl
        · rintro (h | rfl)
          · exact h
          · exact (h2 _).1 ha
      · rw [if_neg hc]
        have ha : a ∉ kindsOf r.reverse := by simpa using hc
        refine ⟨?_, fun c => ?_, by simp at h3 ⊢; omega⟩
        · rw [List.nodup_append]
          refine ⟨h1, by simp, ?_⟩
          intro x hx y hy e
          rw [List.mem_singleton] at hy
          subst hy; subst e
          exact ha hx
        · rw [List.mem_append, List.mem_append, h2]
  exact H l.reverse l (by simp)

theorem kinds_two {γ : Type} [BEq γ] [LawfulBEq γ] (l : List γ) : 1 < (kindsOf l).length ↔ ∃ a ∈ l, ∃ b ∈ l, a ≠ b := by
  obtain ⟨h1, h2, h3⟩ := kinds_inv l
  constructor
  · intro h
    match hk : kindsOf l with
    | [] => rw [hk] at h; simp at h
    | [_] => rw [hk] at h; simp at h
    | a :: b :: r =>
      refine ⟨a, (h2 a).1 (by rw [hk]; simp), b, (h2 b).1 (by rw [hk]; simp), ?_⟩
      rw [hk] at h1
      rintro rfl
      simp at h1
  · rintro ⟨a, ha, b, hb, hab⟩
    have ha' := (h2 a).2 ha
    have hb' := (h2 b).2 hb
    match hk : kindsOf l with
    | [] => rw [hk] at ha'; simp at ha'
    | [c] =>
      rw [hk] at ha' hb'
      rw [List.mem_singleton] at ha' hb'
      exact absurd (ha'.trans hb'.symm) hab
    | _ :: _ :: _ => simp

theorem kinds_all {γ : Type} [BEq γ] [LawfulBEq γ] (l : List γ) : (kindsOf l).length = l.length ↔ l.Nodup := by
  have H : ∀ r : List γ, ∀ l, l = r.reverse → ((kindsOf l).length = l.length ↔ l.Nodup) := by
    intro r
    induction r with
    | nil => rintro l rfl; simp [kindsOf]
    | cons a r ih =>
      rintro l rfl
      have ih := ih _ rfl
      obtain ⟨h1, h2, h3⟩ := kinds_inv r.reverse
      rw [List.reverse_cons, kindsOf_snoc, addK]
      by_cases hc : (kindsOf r.reverse).contains a = true
      · rw [if_pos hc]
        have ha : a ∈ r.reverse := (h2 a).1 (by simpa using hc)
        constructor
        · intro h; rw [List.length_append] at h; simp at h h3; omega
        · intro h
          rw [List.nodup_append] at h
          exact absurd rfl (h.2.2 a ha a (by simp))
      · rw [if_neg hc]
        have ha : a ∉ r.reverse := fun h => hc (by simpa using (h2 a).2 h)
        rw [List.length_append, List.length_append, List.nodup_append]
        constructor
        · intro h
          refine ⟨ih.1 (by simp at h ⊢; omega), by simp, ?_⟩
          intro x hx y hy e
          rw [List.mem_singleton] at hy
          subst hy; subst e
          exact ha hx
        · rintro ⟨h, -, -⟩
          rw [ih.2 h]
  exact H l.reverse l (by simp)

end Go.Proofs.YtphddemilibooaaDoor

/- It is proved which colours are mixed and which are proper, and that colours may be exchanged; conditions: those of each statement. -/
namespace Go.Proofs.YtphddemilibooaaDoor

/-- The colours of the members of a club, one by one. -/
def colsZ (c : List Int) (z : Int) : List Int := (mem z.toNat).map fun v => c[v]?.getD 0

def mixZ (c : List Int) (z : Int) : Bool := decide (1 < (kindsOf (colsZ c z)).length)
def propZ (c : List Int) (z : Int) : Bool := decide ((kindsOf (colsZ c z)).length = (mem z.toNat).length)
def mixB (zs : List Int) (c : List Int) : Bool := zs.all (mixZ c)
def proB (zs : List Int) (c : List Int) : Bool := zs.all (propZ c)
theorem mixZ_iff {c : List Int} {z : Int} : mixZ c z = true ↔ ∃ v ∈ mem z.toNat, ∃ w ∈ mem z.toNat, c[v]?.getD 0 ≠ c[w]?.getD 0 := by
  rw [mixZ, decide_eq_true_iff, kinds_two]
  simp only [colsZ, List.mem_map]
  constructor
  · rintro ⟨a, ⟨v, hv, rfl⟩, b, ⟨w, hw, rfl⟩, hne⟩; exact ⟨v, hv, w, hw, hne⟩
  · rintro ⟨v, hv, w, hw, hne⟩; exact ⟨_, ⟨v, hv, rfl⟩, _, ⟨w, hw, rfl⟩, hne⟩

theorem mem_nodS (s : Nat) : (mem s).Nodup := List.nodup_range.filter _
theorem nodup_map {α β : Type} {f : α → β} : ∀ {l : List α}, l.Nodup → ((l.map f).Nodup ↔ ∀ a ∈ l, ∀ b ∈ l, f a = f b → a = b)
  | [], _ => by simp
  | x :: l, h => by
    rw [List.nodup_cons] at h
    rw [List.map_cons, List.nodup_cons, nodup_map h.2]
    constructor
    · rintro ⟨h1, h2⟩ a ha b hb e
      rcases List.mem_cons.1 ha with ea | ha'
      · rcases List.mem_cons.1 hb with eb | hb'
        · rw [ea, eb]
        · exact absurd (List.mem_map.2 ⟨b, hb', by rw [← e, ea]⟩) h1
      · rcases List.mem_cons.1 hb with eb | hb'
        · exact absurd (List.mem_map.2 ⟨a, ha', by rw [e, eb]⟩) h1
        · exact h2 a ha' b hb' e
    · intro H
      refine ⟨fun hx => ?_, fun a ha b hb => H a (by simp [ha]) b (by simp [hb])⟩
      obtain ⟨b, hb, e⟩ := List.mem_map.1 hx
      have := H b (by simp [hb]) x (by simp) e
      subst this
      exact h.1 hb

theorem propZ_iff {c : List Int} {z : Int} : propZ c z = true ↔ ∀ v ∈ mem z.toNat, ∀ w ∈ mem z.toNat, c[v]?.getD 0 = c[w]?.getD 0 → v = w := by
  have h := kinds_all (colsZ c z)
  rw [propZ, decide_eq_true_iff, show (mem z.toNat).length = (colsZ c z).length from by simp [colsZ], h, colsZ, nodup_map (mem_nodS _)]

/-- The model's question: two members that differ. -/
def mixM (c : List Int) (z : Int) : Bool := (List.range c.length).any fun v => (List.range v).any fun w => Bt v z && Bt w z && (c[v]?.getD 0 != c[w]?.getD 0)

theorem mem_bt {z : Int} {v : Nat} (hz : z.toNat < 64) : v ∈ mem z.toNat ↔ Bt v z = true := mem_bit2 hz
theorem bt_len {c : List Int} {z : Int} (hc : c.length ≤ 6) (hz : z.toNat < 2 ^ c.length) {v : Nat} (h : Bt v z = true) : v < c.length :=
  mem_lt _ hc _ hz v ((mem_bt (Nat.lt_of_lt_of_le hz (Nat.pow_le_pow_right (n := 2) (by decide) hc))).2 h)

theorem mixM_is {c : List Int} {z : Int} (hc : c.length ≤ 6) (hz : z.toNat < 2 ^ c.length) : mixM c z = mixZ c z := by
  have h64 : z.toNat < 64 := Nat.lt_of_lt_of_le hz (Nat.pow_le_pow_right (n := 2) (by decide) hc)
  rw [Bool.eq_iff_iff, mixZ_iff]
  simp only [mixM, List.any_eq_true, List.mem_range, Bool.and_eq_true, bne_iff_ne, mem_bt h64]
  constructor
  · rintro ⟨v, hv, w, hw, ⟨h1, h2⟩, h3⟩; exact ⟨v, h1, w, h2, h3⟩
  · rintro ⟨v, hv, w, hw, hne⟩
    rcases Nat.lt_trichotomy v w with h | rfl | h
    · exact ⟨w, bt_len hc hz hw, v, h, ⟨hw, hv⟩, fun e => hne e.symm⟩
    · exact absurd rfl hne
    · exact ⟨v, bt_len hc hz hv, w, h, ⟨hv, hw⟩, hne⟩

/-- The model's question for proper colours, by pairs. -/
def pairB (zs : List Int) (v w : Nat) : Bool := decide (v ≠ w) && zs.any fun z => Bt v z && Bt w z

def proM (zs : List Int) (c : List Int) : Bool := (List.range c.length).all fun v => (List.range v).all fun w => !pairB zs v w || (c[v]?.getD 0 != c[w]?.getD 0)
theorem proM_is {zs : List Int} {c : List Int} (hc : c.length ≤ 6) (hz : Sets c.length zs) : proM zs c = proB zs c := by
  rw [Bool.eq_iff_iff]
  simp only [proM, proB, List.all_eq_true, List.mem_range, Bool.or_eq_true, Bool.not_eq_true', bne_iff_ne, pairB, Bool.and_eq_false_iff, decide_eq_false_iff_not, List.any_eq_false, Bool.and_eq_true]
  have h64 : ∀ z ∈ zs, z.toNat < 64 := fun z h => Nat.lt_of_lt_of_le (hz z h).2 (Nat.pow_le_pow_right (n := 2) (by decide) hc)
  constructor
  · intro H z hzz
    rw [propZ_iff]
    intro v hv w hw e
    rw [mem_bt (h64 z hzz)] at hv hw
    have hlv := bt_len hc (hz z hzz).2 hv
    have hlw := bt_len hc (hz z hzz).2 hw
    rcases Nat.lt_trichotomy v w with h | h | h
    · rcases H w hlw v h with (h1 | h1) | h1
      · exact absurd (fun e => by omega) h1
      · exact absurd ⟨hw, hv⟩ (h1 z hzz)
      · exact absurd e.symm h1
    · exact h
    · rcases H v hlv w h with (h1 | h1) | h1
      · exact absurd (fun e => by omega) h1
      · exact absurd ⟨hv, hw⟩ (h1 z hzz)
      · exact absurd e h1
  · intro H v hv w hw
    by_cases he : c[v]?.getD 0 = c[w]?.getD 0
    · refine .inl (.inr fun z hzz hb => ?_)
      have := propZ_iff.1 (H z hzz) v ((mem_bt (h64 z hzz)).2 hb.1) w ((mem_bt (h64 z hzz)).2 hb.2) he
      omega
    · exact .inr he

/-- Colours are exchanged: a map that keeps different colours apart. -/
theorem mix_map {zs : List Int} {c : List Int} {f : Int → Int} (hc : c.length ≤ 6) (hz : Sets c.length zs) (hf : ∀ a ∈ c, ∀ b ∈ c, f a = f b → a = b) : mixB zs (c.map f) = mixB zs c ∧ proB zs (c.map f) = proB zs c := by
  have h64 : ∀ z ∈ zs, z.toNat < 64 := fun z h => Nat.lt_of_lt_of_le (hz z h).2 (Nat.pow_le_pow_right (n := 2) (by decide) hc)
  have hat : ∀ z ∈ zs, ∀ v ∈ mem z.toNat, ∃ a ∈ c, c[v]?.getD 0 = a ∧ (c.map f)[v]?.getD 0 = f a := fun z hzz v hv => by
    have hl := bt_len hc (hz z hzz).2 ((mem_bt (h64 z hzz)).1 hv)
    refine ⟨c[v], List.getElem_mem hl, by simp [hl], by simp [hl]⟩
  have hiff : ∀ z ∈ zs, ∀ v ∈ mem z.toNat, ∀ w ∈ mem z.toNat, ((c.map f)[v]?.getD 0 = (c.map f)[w]?.getD 0 ↔ c[v]?.getD 0 = c[w]?.getD 0) := fun z hzz v hv w hw => by
    obtain ⟨a, ha, e1, e2⟩ := hat z hzz v hv
    obtain ⟨b, hb, e3, e4⟩ := hat z hzz w hw
    rw [e1, e2, e3, e4]
    exact ⟨hf a ha b hb, fun e => by rw [e]⟩
  constructor
  · rw [Bool.eq_iff_iff, mixB, mixB, List.all_eq_true, List.all_eq_true]
    refine forall_congr' fun z => forall_congr' fun hzz => ?_
    rw [mixZ_iff, mixZ_iff]
    constructor
    · rintro ⟨v, hv, w, hw, h⟩; exact ⟨v, hv, w, hw, fun e => h ((hiff z hzz v hv w hw).2 e)⟩
    · rintro ⟨v, hv, w, hw, h⟩; exact ⟨v, hv, w, hw, fun e => h ((hiff z hzz v hv w hw).1 e)⟩
  · rw [Bool.eq_iff_iff, proB, proB, List.all_eq_true, List.all_eq_true]
    refine forall_congr' fun z => forall_congr' fun hzz => ?_
    rw [propZ_iff, propZ_iff]
    constructor
    · intro H v hv w hw e; exact H v hv w hw ((hiff z hzz v hv w hw).2 e)
    · intro H v hv w hw e; exact H v hv w hw ((hiff z hzz v hv w hw).1 e)

/-- All lists, with colours exchanged, are all lists in some order. -/
theorem flat_perm {α β : Type} {f g : α → List β} (h : ∀ a, (f a).Perm (g a)) : ∀ l : List α, (l.flatMap f).Perm (l.flatMap g)
  | [] => .refl _
  | a :: l => by
    rw [List.flatMap_cons, List.flatMap_cons]
    exact (h a).append (flat_perm h l)

theorem words_perm {γ : Type} {pal pal' : List γ} (h : pal.Perm pal') : ∀ n, (wordsL pal n).Perm (wordsL pal' n)
  | 0 => .refl _
  | n + 1 => (flat_perm (fun c => (words_perm h n).map (c :: ·)) pal).trans (h.flatMap_right _)

theorem words_map {γ δ : Type} (f : γ → δ) (pal : List γ) : ∀ n, (wordsL pal n).map (List.map f) = wordsL (pal.map f) n
  | 0 => rfl
  | n + 1 => by
    simp only [wordsL, List.map_flatMap, List.flatMap_map, List.map_map, ← words_map f pal n]
    rfl

/-- 0 and another colour are exchanged. -/
def swapC (j c : Int) : Int := if c = 0 then j else if c = j then 0 else c

theorem swap_inj {j a b : Int} (h : swapC j a = swapC j b) : a = b := by
  unfold swapC at h
  repeat' split at h
  all_goals omega

theorem nodup_pal (k : Nat) : (palI k).Nodup := by
  rw [palI, nodup_map List.nodup_range]
  intro a _ b _ h
  omega

theorem pal_swap {k : Nat} {j : Int} (h0 : 0 ≤ j) (hj : j < k) : ((palI k).map (swapC j)).Perm (palI k) := by
  refine (List.perm_ext_iff_of_nodup ((nodup_map (nodup_pal k)).2 (fun a _ b _ h => swap_inj h)) (nodup_pal k)).2 fun c => ?_
  rw [List.mem_map]
  simp only [palI_mem]
  constructor
  · rintro ⟨a, ha, rfl⟩
    unfold swapC
    repeat' split
    all_goals omega
  · intro hc
    refine ⟨swapC j c, ?_, ?_⟩
    all_goals unfold swapC
    all_goals repeat' split
    all_goals omega

/-- What abides when colours are exchanged. -/
def Swaps (n : Nat) (k : Nat) (P : List Int → Bool) : Prop := ∀ j : Int, 0 ≤ j → j < k → ∀ c ∈ wordsL (palI k) n, P (c.map (swapC j)) = P c

theorem cnt_head {k n : Nat} {P : List Int → Bool} (h : Swaps (n + 1) k P) {j : Int} (h0 : 0 ≤ j) (hj : j < k) :
    (wordsL (palI k) n).countP (fun u => P (j :: u)) = (wordsL (palI k) n).countP (fun u => P (0 :: u)) := by
  have h1 := (words_perm (pal_swap h0 hj) n).countP_eq (fun u => P (0 :: u))
  rw [← words_map, List.countP_map] at h1
  rw [← h1]
  apply List.countP_congr
  intro u hu
  have hm : (j :: u) ∈ wordsL (palI k) (n + 1) := by
    rw [wordsL_mem] at hu ⊢
    refine ⟨by simp [hu.1], fun c hc => ?_⟩
    rcases List.mem_cons.1 hc with rfl | hc
    · exact (palI_mem _ _).2 ⟨h0, hj⟩
    · exact hu.2 c hc
  have := h j h0 hj (j :: u) hm
  simp only [Function.comp]
  rw [← this, List.map_cons, show swapC j j = 0 from by unfold swapC; split <;> simp_all]

theorem swap_cnt {k n : Nat} {P : List Int → Bool} (h : Swaps (n + 1) k P) : (wordsL (palI k) (n + 1)).countP P = k * (wordsL (palI k) n).countP (fun u => P (0 :: u)) := by
  have H : ∀ l : List Int, (∀ j ∈ l, 0 ≤ j ∧ j < k) → (l.flatMap fun c => (wordsL (palI k) n).map (c :: ·)).countP P = l.length * (wordsL (palI k) n).countP (fun u => P (0 :: u)) := by
    intro l
    induction l with
    | nil => intro _; simp
    | cons j l ih =>
      intro hl
      obtain ⟨h0, hj⟩ := hl j (by simp)
      rw [List.flatMap_cons, List.countP_append, ih (fun i hi => hl i (by simp [hi])), List.countP_map, List.length_cons, Nat.succ_mul, Nat.add_comm]
      congr 1
      exact cnt_head h h0 hj
  rw [wordsL, H _ (fun j hj => (palI_mem _ _).1 hj), palI_len]

theorem mix_swaps {zs : List Int} {n k : Nat} (hn : n ≤ 6) (hz : Sets n zs) : Swaps n k (mixB zs) := fun j _ _ c hc => by
  obtain ⟨h1, -⟩ := (wordsL_mem _ _ _).1 hc
  exact (mix_map (by omega) (by rw [h1]; exact hz) (fun a _ b _ e => swap_inj e)).1

theorem pro_swaps {zs : List Int} {n k : Nat} (hn : n ≤ 6) (hz : Sets n zs) : Swaps n k (proB zs) := fun j _ _ c hc => by
  obtain ⟨h1, -⟩ := (wordsL_mem _ _ _).1 hc
  exact (mix_map (by omega) (by rw [h1]; exact hz) (fun a _ b _ e => swap_inj e)).2

end Go.Proofs.YtphddemilibooaaDoor

/- It is proved what a round of reducing does to a list of sets; conditions: those of each statement. -/
namespace Go.Proofs.YtphddemilibooaaDoor
open Go.RowKit

def mbN (zs : List Int) : Nat := (List.range 6).countP fun v => zs.any (Bt v)
theorem mbN_le (zs : List Int) : mbN zs ≤ 6 := by
  have := List.countP_le_length (p := fun v => zs.any (Bt v)) (l := List.range 6)
  simpa [mbN] using this

theorem cnt6 (p q : Nat → Bool) (v : Nat) (hv : v < 6) (hp : p v = true) (hq : q v = false) (h : ∀ u, u < 6 → u ≠ v → q u = p u) : (List.range 6).countP q + 1 = (List.range 6).countP p := by
  have h0 := h 0 (by omega)
  have h1 := h 1 (by omega)
  have h2 := h 2 (by omega)
  have h3 := h 3 (by omega)
  have h4 := h 4 (by omega)
  have h5 := h 5 (by omega)
  rw [show List.range 6 = [0, 1, 2, 3, 4, 5] from rfl]
  simp only [List.countP_cons, List.countP_nil]
  match v, hv with
  | 0, _ => rw [hp, hq, h1 (by omega), h2 (by omega), h3 (by omega), h4 (by omega), h5 (by omega)]; simp
  | 1, _ => rw [hp, hq, h0 (by omega), h2 (by omega), h3 (by omega), h4 (by omega), h5 (by omega)]; simp; omega
  | 2, _ => rw [hp, hq, h0 (by omega), h1 (by omega), h3 (by omega), h4 (by omega), h5 (by omega)]; simp; omega
  | 3, _ => rw [hp, hq, h0 (by omega), h1 (by omega), h2 (by omega), h4 (by omega), h5 (by omega)]; simp; omega
  | 4, _ => rw [hp, hq, h0 (by omega), h1 (by omega), h2 (by omega), h3 (by omega), h5 (by omega)]; simp; omega
  | 5, _ => rw [hp, hq, h0 (by omega), h1 (by omega), h2 (by omega), h3 (by omega), h4 (by omega)]; simp; omega

theorem mb_ext {zs ys : List Int} (h : ∀ v, v < 6 → zs.any (Bt v) = ys.any (Bt v)) : mbN zs = mbN ys := by
  unfold mbN
  exact List.countP_congr fun v hv => by rw [h v (List.mem_range.1 hv)]

theorem mb_gr {m : Nat} (hm : m ≤ 6) {zs : List Int} (hS : Sets m zs) : mbN (grZ zs) = mbN zs := mb_ext fun v _ => by
  rw [Bool.eq_iff_iff, List.any_eq_true, List.any_eq_true]
  constructor
  · rintro ⟨x, hx, h⟩
    exact ⟨x, gr_sub hx, h⟩
  · rintro ⟨x, hx, h⟩
    obtain ⟨o, ho, hs⟩ := gr_above hm hS _ x rfl hx
    exact ⟨o, ho, subZ_bit hs h⟩

theorem mb_cut {m v : Nat} (hm : m ≤ 6) (hv : v < 6) {zs : List Int} (hS : Sets m zs) (h : zs.any (Bt v) = true) : mbN (zs.map (woZ v)) + 1 = mbN zs := by
  have hl : ∀ z ∈ zs, z.toNat < 64 := fun z hz => p64 hm (hS z hz).2
  unfold mbN
  refine cnt6 _ _ v hv h ?_ fun u hu hne => ?_
  · rw [List.any_eq_false]
    intro y hy hb
    obtain ⟨x, hx, rfl⟩ := List.mem_map.1 hy
    rw [woZ_bit (hl x hx) hv hv] at hb
    simp at hb
  · show (zs.map (woZ v)).any (Bt u) = zs.any (Bt u)
    rw [List.any_map, Bool.eq_iff_iff, List.any_eq_true, List.any_eq_true]
    constructor
    · rintro ⟨x, hx, hb⟩
      rw [Function.comp_apply, woZ_bit (hl x hx) hu hv, Bool.and_eq_true] at hb
      exact ⟨x, hx, hb.1⟩
    · rintro ⟨x, hx, hb⟩
      refine ⟨x, hx, ?_⟩
      rw [Function.comp_apply, woZ_bit (hl x hx) hu hv, hb, decide_eq_true hne]; rfl

theorem idx_one {p : Int → Bool} : ∀ {l : List Int}, l.countP p = 1 → ∀ {i j : Nat} {x y : Int}, l[i]? = some x → l[j]? = some y → p x = true → p y = true → i = j
  | [], h, _, _, _, _, _, _, _, _ => by simp at h
  | a :: l, h, 0, 0, _, _, _, _, _, _ => rfl
  | a :: l, h, 0, j + 1, x, y, hx, hy, px, py => by
      simp only [List.getElem?_cons_zero, Option.some.injEq] at hx
      simp only [List.getElem?_cons_succ] at hy
      subst hx
      rw [List.countP_cons, if_pos px] at h
      have := List.countP_eq_zero.1 (by omega : l.countP p = 0) y (List.mem_of_getElem? hy)
      exact (this py).elim
  | a :: l, h, i + 1, 0, x, y, hx, hy, px, py => by
      simp only [List.getElem?_cons_zero, Option.some.injEq] at hy
      simp only [List.getElem?_cons_succ] at hx
      subst hy
      rw [List.countP_cons, if_pos py] at h
      have := List.countP_eq_zero.1 (by omega : l.countP p = 0) x (List.mem_of_getElem? hx)
      exact (this px).elim
  | a :: l, h, i + 1, j + 1, x, y, hx, hy, px, py => by
      simp only [List.getElem?_cons_succ] at hx hy
      rw [List.countP_cons] at h
      have h1 : 1 ≤ l.countP p := List.countP_pos_iff.2 ⟨x, List.mem_of_getElem? hx, px⟩
      by_cases e : p a = true
      · rw [if_pos e] at h; omega
      · rw [if_neg e] at h
        have := idx_one h hx hy px py
        omega

theorem bt_lt {m v : Nat} {z : Int} (h : z.toNat < 2 ^ m) (hb : Bt v z = true) : v < m := by
  by_cases e : v < m
  · exact e
  · unfold Bt at hb
    rw [Nat.testBit_lt_two_pow (Nat.lt_of_lt_of_le h (Nat.pow_le_pow_right (by decide) (by omega)))] at hb
    cases hb

theorem d1_cnt {v : Nat} {l G : List Int} (hn : l.Nodup) (h : ∀ z, z ∈ G ↔ z ∈ l) : D1 v G ↔ l.countP (Bt v) = 1 := by
  constructor
  · rintro ⟨x, hx, hb, hq⟩
    have e : l.countP (Bt v) = l.countP (fun z => decide (z = x)) := List.countP_congr fun z hz => by
      rw [decide_eq_true_eq]
      exact ⟨fun hz' => hq z ((h z).2 hz) hz', fun e => e ▸ hb⟩
    rw [e]
    have h2 : l.countP (fun z => decide (z = x)) = l.count x := by
      rw [List.count]
      exact List.countP_congr fun z _ => by rw [decide_eq_true_eq, beq_iff_eq]
    rw [h2, List.Nodup.count hn, if_pos ((h x).1 hx)]
  · intro hc
    obtain ⟨x, hx, hb⟩ := List.countP_pos_iff.1 (by omega : 0 < l.countP (Bt v))
    obtain ⟨i, hi⟩ := List.mem_iff_getElem?.1 hx
    refine ⟨x, (h x).2 hx, hb, fun y hy hyb => ?_⟩
    obtain ⟨j, hj⟩ := List.mem_iff_getElem?.1 ((h y).1 hy)
    have := idx_one hc hi hj hb hyb
    subst this
    rw [hi] at hj
    exact (Option.some.inj hj).symm

theorem gr_nodup (zs : List Int) : (grZ zs).Nodup := (unbeaten_asc geG zs).imp (fun h => by omega)
/-- What is left, told by reducing the first such member again and again. -/
def redF : Nat → Nat → List Int → List Int
  | 0, _, G => G
  | f + 1, m, G => match (List.range m).find? fun v => decide (G.countP (Bt v) = 1) with
    | none => G
    | some v => redF f m (stepZ v G)

def redZ (m : Nat) (zs : List Int) : List Int := redF 7 m (grZ zs)
theorem redF_is {m : Nat} (hm : m ≤ 6) : ∀ (f : Nat) (G : List Int), G.Nodup → Sets m G → mbN G < f → Red m G (redF f m G) ∧ Done m (redF f m G) := by
  intro f
  induction f with
  | zero => intro G _ _ h; omega
  | succ f ih =>
    intro G hn hS hlt
    rw [redF]
    cases hf : (List.range m).find? fun v => decide (G.countP (Bt v) = 1) with
    | none =>
      refine ⟨.refl _, fun v hv hd => ?_⟩
      rw [List.find?_eq_none] at hf
      exact hf v (List.mem_range.2 hv) (by rw [decide_eq_true_eq]; exact (d1_cnt hn (fun _ => Iff.rfl)).1 hd)
    | some v =>
      have hc := List.find?_some hf
      have hv := List.mem_range.1 (List.mem_of_find?_eq_some hf)
      rw [decide_eq_true_eq] at hc
      have hd : D1 v G := (d1_cnt hn (fun _ => Iff.rfl)).2 hc
      have hlt2 : mbN (stepZ v G) < f := by
        obtain ⟨x, hx, hb, _⟩ := hd
        have := mb_cut hm (by omega : v < 6) hS (List.any_eq_true.2 ⟨x, hx, hb⟩)
        unfold stepZ
        rw [mb_gr hm (woZ_sets hS)]
        omega
      obtain ⟨h1, h2⟩ := ih (stepZ v G) (gr_nodup _) (stepZ_sets hS) hlt2
      exact ⟨.head v hv hd h1, h2⟩

theorem redZ_is {m : Nat} (hm : m ≤ 6) {zs N : List Int} (hS : Sets m zs) (h : Red m (grZ zs) N) (hd : Done m N) : N = redZ m zs := by
  obtain ⟨h1, h2⟩ := redF_is hm 7 (grZ zs) (gr_nodup _) (gr_sets hS) (by have := mbN_le (grZ zs); omega)
  exact h.unique hm hd h1 h2 (gr_sets hS)

end Go.Proofs.YtphddemilibooaaDoor

/- It is proved what EarFalls and EarSteps of the model return; conditions: those of each statement. -/
namespace Go.Proofs.YtphddemilibooaaDoor
open Go.RowKit

theorem redZ_done {k : Nat} (hk6 : k ≤ 6) {zs : List Int} (hz : Sets k zs) : Red k (grZ zs) (redZ k zs) ∧ Done k (redZ k zs) :=
  redF_is hk6 7 (grZ zs) (gr_nodup _) (gr_sets hz) (by have := mbN_le (grZ zs); omega)

theorem redZ_sets {k : Nat} (hk6 : k ≤ 6) {zs : List Int} (hz : Sets k zs) : Sets k (redZ k zs) := (redZ_done hk6 hz).1.sets (gr_sets hz)
end Go.Proofs.YtphddemilibooaaDoor

/- It is proved that forests have two colours that are even for each club, and that families that fall apart have proper colours; conditions: those of each statement. -/
namespace Go.Proofs.YtphddemilibooaaDoor
open Go.RowKit

/-- What is left of a family that falls apart has no members. -/
theorem left_none {m : Nat} (hm : m ≤ 6) {zs : List Int} (hS : Sets m zs) (h : (redZ m zs).length ≤ 1) : ∀ z ∈ redZ m zs, ∀ v, Bt v z = false := by
  have hNS := redZ_sets hm hS
  obtain ⟨hr, hd⟩ := redZ_done hm hS
  intro z hz v
  cases hb : Bt v z
  · rfl
  · refine (hd v (bt_lt (hNS z hz).2 hb) ⟨z, hz, hb, fun y hy _ => ?_⟩).elim
    match hN : redZ m zs with
    | [] => rw [hN] at hz; simp at hz
    | [a] =>
      rw [hN] at hz hy
      rw [List.mem_singleton] at hz hy
      rw [hz, hy]
    | a :: b :: t => rw [hN] at h; simp at h

/-- Proper colours, as a function. -/
def PropX (k : Nat) (x : Nat → Nat) (zs : List Int) : Prop := (∀ v, x v < k) ∧ ∀ z ∈ zs, ∀ u v, Bt u z = true → Bt v z = true → x u = x v → u = v

theorem fresh_colour : ∀ (k : Nat) (l : List Nat), l.length < k → ∃ c, c < k ∧ c ∉ l := by
  intro k l hl
  apply Classical.byContradiction
  intro hn
  have : ∀ c, c < k → c ∈ l := fun c hc => Classical.byContradiction fun h => hn ⟨c, hc, h⟩
  have h2 : (List.range k).length ≤ l.length := List.nodup_range.length_le_of_subset (fun c hc => this c (List.mem_range.1 hc))
  simp at h2
  omega

theorem prop_gr {m k : Nat} (hm : m ≤ 6) {zs : List Int} (hS : Sets m zs) {x : Nat → Nat} (h : PropX k x (grZ zs)) : PropX k x zs :=
  ⟨h.1, fun z hz u v hu hv e => by
    obtain ⟨o, ho, hs⟩ := gr_above hm hS _ z rfl hz
    exact h.2 o ho u v (subZ_bit hs hu) (subZ_bit hs hv) e⟩

def SmallX (k : Nat) (zs : List Int) : Prop := ∀ z ∈ zs, (mem z.toNat).length ≤ k
theorem wo_len_fin : ∀ s : Fin 64, ∀ v : Fin 6, (mem (woP s.val v.val)).length ≤ (mem s.val).length ∧ (s.val.testBit v.val = true → (mem (woP s.val v.val)).length < (mem s.val).length) := by decide +kernel
theorem small_wo {m k v : Nat} (hm : m ≤ 6) (hv : v < 6) {zs : List Int} (hS : Sets m zs) (h : SmallX k zs) : SmallX k (zs.map (woZ v)) := by
  intro z hz
  obtain ⟨y, hy, rfl⟩ := List.mem_map.1 hz
  have h1 := h y hy
  have h2 := (wo_len_fin ⟨y.toNat, p64 hm (hS y hy).2⟩ ⟨v, hv⟩).1
  show (mem (woZ v y).toNat).length ≤ k
  rw [show (woZ v y).toNat = woP y.toNat v from by unfold woZ; exact Int.toNat_natCast _]
  dsimp only at h2
  omega

theorem prop_step {m k v : Nat} (hm : m ≤ 6) (hv : v < m) {G : List Int} (hS : Sets m G) (hk : SmallX k G) (hd : D1 v G) {x : Nat → Nat} (h : PropX k x (stepZ v G)) : ∃ y : Nat → Nat, PropX k y G := by
  obtain ⟨h1, h2⟩ := prop_gr hm (woZ_sets (v := v) hS) h
  obtain ⟨e, he, hbe, hq⟩ := hd
  have hl : ∀ z ∈ G, z.toNat < 64 := fun z hz => p64 hm (hS z hz).2
  have hv6 : v < 6 := by omega
  obtain ⟨c, hc, hcn⟩ := fresh_colour k ((mem (woP e.toNat v)).map x) (by
    have h3 := (wo_len_fin ⟨e.toNat, hl e he⟩ ⟨v, hv6⟩).2 hbe
    have := hk e he
    rw [List.length_map]
    dsimp only at h3
    omega)
  have hin : ∀ u, Bt u e = true → u ≠ v → x u ≠ c := fun u hu hne hxc => hcn (by
    refine List.mem_map.2 ⟨u, ?_, hxc⟩
    have hu6 : u < 6 := by have := bt_lt (hS e he).2 hu; omega
    have hw := woZ_bit (hl e he) hu6 hv6
    rw [hu, decide_eq_true hne] at hw
    have hwl : woP e.toNat v < 64 := by have := ((woZ_sets (v := v) hS) _ (List.mem_map.2 ⟨e, he, rfl⟩)).2; unfold woZ at this; rw [Int.toNat_natCast] at this; exact p64 hm this
    refine (mem_bit2 hwl).2 ?_
    unfold woZ Bt at hw
    rw [Int.toNat_natCast] at hw
    simpa using hw)
  refine ⟨fun u => if u = v then c else x u, fun u => ?_, fun z hz u w hu hw exy => ?_⟩
  · dsimp only
    split
    · exact hc
    · exact h1 u
  · have hu6 : u < 6 := by have := bt_lt (hS z hz).2 hu; omega
    have hw6 : w < 6 := by have := bt_lt (hS z hz).2 hw; omega
    dsimp only at exy
    by_cases e1 : u = v
    · by_cases e2 : w = v
      · rw [e1, e2]
      · exfalso
        subst e1
        obtain rfl := hq z hz hu
        rw [if_pos rfl, if_neg e2] at exy
        exact hin w hw e2 exy.symm
    · by_cases e2 : w = v
      · exfalso
        subst e2
        obtain rfl := hq z hz hw
        rw [if_neg e1, if_pos rfl] at exy
        exact hin u hu e1 exy
      · rw [if_neg e1, if_neg e2] at exy
        refine h2 (woZ v z) (List.mem_map.2 ⟨z, hz, rfl⟩) u w ?_ ?_ exy
        · rw [woZ_bit (hl z hz) hu6 hv6, hu, decide_eq_true e1]; rfl
        · rw [woZ_bit (hl z hz) hw6 hv6, hw, decide_eq_true e2]; rfl

theorem prop_red {m k : Nat} (hm : m ≤ 6) {G N : List Int} (h : Red m G N) : ∀ (_ : Sets m G) (_ : SmallX k G) (_ : ∃ x, PropX k x N), ∃ x, PropX k x G := by
  induction h with
  | refl _ => exact fun _ _ h => h
  | @head G N v hv hd _ ih =>
    intro hS hk hN
    obtain ⟨x, hx⟩ := ih (stepZ_sets hS) (fun z hz => small_wo hm (by omega) hS hk z (gr_sub hz)) hN
    exact prop_step hm hv hS hk hd hx

/-- A family that falls apart has proper colours, as many as its greatest club has members. -/
theorem falls_prop {m k : Nat} (hm : m ≤ 6) (hk1 : 1 ≤ k) {zs : List Int} (hS : Sets m zs) (hk : SmallX k zs) (h : (redZ m zs).length ≤ 1) : ∃ x, PropX k x zs := by
  obtain ⟨x, hx⟩ := prop_red hm (redZ_done hm hS).1 (gr_sets hS) (fun z hz => hk z (gr_sub hz)) ⟨fun _ => 0, fun _ => (by dsimp only; omega), fun z hz u v hu _ _ => by
    rw [left_none hm hS h z hz u] at hu; cases hu⟩
  exact ⟨x, prop_gr hm hS hx⟩

end Go.Proofs.YtphddemilibooaaDoor
