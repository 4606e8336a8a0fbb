/- It is proved that a region that draws its order may be walked one operation at a time where what each operation gives does not hang on the order; conditions: those of each statement. -/
import Derived.OrdersIn
import Derived.TacticsIn
namespace Go
section
variable {F : Fence} {n : Nat} {P : Program} {ops : Array Oper} {Q : Exit → Act → World → Prop} {md : Region.Mode}

/-- Q, but K where nothing jumps. -/
def UponK (K : Act → World → Prop) (Q : Exit → Act → World → Prop) : Exit → Act → World → Prop
  | .normal, a, w => K a w
  | .ret, a, w => Q .ret a w
  | .exit i, a, w => Q (.exit i) a w
  | .goto t, a, w => Q (.goto t) a w
  | .panic c, a, w => Q (.panic c) a w
  | .outgrown, a, w => Q .outgrown a w

theorem Oper.wpIn_uponK {o : Oper} {a : Act} {w : World} {K K' : Act → World → Prop} (hh : o.wpIn F n P a w K (UponK K' Q)) : o.wpIn F n P a w K Q := by
  unfold Oper.wpIn at *
  refine ⟨hh.1, ?_⟩
  have hh := hh.2
  generalize (o.semAt F.round a.eval).run P w = r at *
  cases r with
  | ok x w' =>
    cases x <;> simp only [Oper.uponIn] at hh ⊢ <;>
      first
        | exact hh
        | exact ⟨hh.1, CallsIn.mono hh.2 (fun e w'' he => by cases e <;> exact he)⟩
        | exact ⟨hh.1, RoundIn.mono hh.2 (fun e w'' he => by cases e <;> exact he)⟩
  | halt x w' => cases x <;> simp only [Oper.uponIn] at hh ⊢ <;> exact hh

theorem wpOpIn_of_list {i : Nat} {o : Oper} {a : Act} {w : World} {K : Act → World → Prop} (ho : ops[i]? = some o) (h : wpListIn F n P ops (UponK K Q) [o] a w) : wpOpIn F n P ops Q i K a w := by
  unfold wpOpIn
  simp only [ho]
  unfold wpListIn at h
  split
  · rename_i hw; simp only [hw, if_true] at h; exact Oper.wpIn_uponK h
  · rename_i hw; simp only [hw] at h; exact h

def masks : Nat → List (List Bool)
  | 0 => [[]]
  | k + 1 => (masks k).flatMap fun m => [false :: m, true :: m]

theorem mem_masks : ∀ l : List Bool, l ∈ masks l.length
  | [] => by simp [masks]
  | b :: l => by
    simp only [List.length_cons, masks, List.mem_flatMap]
    exact ⟨l, mem_masks l, by cases b <;> simp⟩

/-- Where no operation may come next, all have come. -/
def Region.endsB (md : Region.Mode) (ops : Array Oper) : Bool := (masks ops.size).all fun l => !(Region.ready md ops l.toArray).isEmpty || l.all id

theorem count_set : ∀ (l : List Bool) (i : Nat), l[i]? = some false → (l.set i true).count false + 1 = l.count false
  | [], i, h => by simp at h
  | b :: l, 0, h => by simp at h; subst h; simp
  | b :: l, i + 1, h => by
    have := count_set l i (by simpa using h)
    cases b <;> simp [List.count_cons] <;> omega

end
end Go
