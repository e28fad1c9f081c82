import Derived.Test.YtgflalfiopnmnaaGrMema
namespace Go.Proofs.Ytgflalfiopnmnaa
open Go.RowKit Vl

/-- Every text of the tables is no longer than m, and the pairs no more. -/
def Small (m n : Nat) (L : Nat → Nat) (K X : Nat → Nat → V) : Prop := ∀ r, r < n → L r ≤ m ∧ ∀ c, c < L r → (K r c).s.size ≤ m ∧ (X r c).s.size ≤ m

end Go.Proofs.Ytgflalfiopnmnaa
