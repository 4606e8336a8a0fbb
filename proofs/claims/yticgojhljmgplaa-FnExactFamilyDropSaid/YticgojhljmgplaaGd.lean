/- It is proved that FamilyDrop of the program and of the model return the same; conditions: those of each statement. -/
import Derived.Test.YticgojhljmgplaaGc
namespace Go.Proofs.Yticgojhljmgplaa
open Go.RowKit

theorem dropIn_nat {m : Int} {zs : List Int} {x : Int} (hi : inB x 0 ((zs.length : Int) - 1) = true) : ∃ p : Nat, x = (p : Int) ∧ p < zs.length := by
  obtain ⟨h0, h1⟩ := inB_out hi
  exact ⟨x.toNat, by omega, by omega⟩
theorem Ints.some_ {w : World} {B : Nat} {a : Option Addr} {zs : List Int} (h : Ints w B a zs) (hn : 0 < zs.length) : ∃ b off, a = some ⟨b, off, none⟩ := by
  rcases h with rfl | ⟨b, off, e, _⟩
  · simp at hn
  · exact ⟨b, off, e⟩
theorem own_cap {w : World} {B : Nat} {a : Option Addr} {n cap : Nat} {zs : List Int} (h : OwnN w B a n cap zs) : n ≤ cap := by
  rcases h.2 with ⟨e, hn⟩ | ⟨g, c, cur, e, _, _, hnc, _⟩
  · omega
  · injection e with _ _ e3; omega

theorem implDrop_any (m : Int) (a : Option Addr) (c : Nat) (zs : List Int) (x : Int) (w : World) (ha : Ints w w.heap.size a zs) (hx : zs.length ≤ 1048576) (hc : zs.length ≤ c) :
    Calls Try.prog 36 #[.agg #[.int .i64 m, .slice a zs.length c], .int .i64 x] w (RetFB w (dropM m zs x) (dropZ m zs x) (dropIn m zs x)) := by
  unfold dropM dropZ dropIn
  cases hf : famIn m zs
  · exact implDrop_no m a c zs x w ha hx (.inl hf)
  · cases hi : inB x 0 ((zs.length : Int) - 1)
    · exact implDrop_no m a c zs x w ha hx (by rcases inB_no hi with h | h; exact .inr (.inl h); exact .inr (.inr (by omega)))
    · obtain ⟨p, rfl, hp⟩ := dropIn_nat (m := m) hi
      obtain ⟨b, off, rfl⟩ := ha.some_ (by omega)
      simpa using implDrop_yes m b off c zs p w ha hx hf hp hc
theorem specDrop_any (m : Int) (a : Option Addr) (c : Nat) (zs : List Int) (x : Int) (w : World) (ha : Ints w w.heap.size a zs) (hx : zs.length ≤ 1048576) (hc : zs.length ≤ c) :
    Calls Try.prog 35 #[.agg #[.int .i64 m, .slice a zs.length c], .int .i64 x] w (RetFB w (dropM m zs x) (dropZ m zs x) (dropIn m zs x)) := by
  unfold dropM dropZ dropIn
  cases hf : famIn m zs
  · exact specDrop_no m a c zs x false w ha hx hf (.inl rfl)
  · cases hi : inB x 0 ((zs.length : Int) - 1)
    · exact specDrop_no m a c zs x true w ha hx hf (.inr ⟨rfl, hi⟩)
    · obtain ⟨p, rfl, hp⟩ := dropIn_nat (m := m) hi
      obtain ⟨b, off, rfl⟩ := ha.some_ (by omega)
      simpa using specDrop_yes m b off c zs p w ha hx hf hp hc
end Go.Proofs.Yticgojhljmgplaa
