/- It is proved how all names of members are listed in order, by choosing the first name and by going on from the front; conditions: those of each statement. -/
import Derived.RowKit
namespace Go.Proofs.YtbiggilheicfjaaDoor
open Go.RowKit

/-- All orders of these members, as lists are compared. -/
def permsL : Nat → List Nat → List (List Nat)
  | 0, _ => [[]]
  | k + 1, us => us.flatMap fun v => (permsL k (us.erase v)).map (v :: ·)

theorem flat_len {α β : Type} (f : α → List β) (c : Nat) : ∀ xs : List α, (∀ x ∈ xs, (f x).length ≤ c) → (xs.flatMap f).length ≤ xs.length * c
  | [], _ => by simp
  | x :: xs, h => by
    rw [List.flatMap_cons, List.length_append, List.length_cons, Nat.succ_mul]
    have h1 := h x (by simp)
    have h2 := flat_len f c xs (fun y hy => h y (by simp [hy]))
    omega

end Go.Proofs.YtbiggilheicfjaaDoor
