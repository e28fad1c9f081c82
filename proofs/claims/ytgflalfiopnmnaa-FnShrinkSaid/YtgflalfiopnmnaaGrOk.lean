import Derived.Test.YtgflalfiopnmnaaVlOrd2
/-
  What it is that a graph is well made. No Go in sight.
-/
namespace Go.Proofs.Ytgflalfiopnmnaa.Vl

structure OkP (n : Nat) (K X : Nat → V) (c : Nat) : Prop where
  key : isK (K c) = true
  val : isV n (X c) = true
  some : (X c).k ≠ 0
  once : ∀ j, j < c → eqV (K j) (K c) = false

structure OkT (n L : Nat) (K X : Nat → V) : Prop where
  len : L ≤ 100
  all : ∀ c, c < L → OkP n K X c

structure OkG (n : Nat) (u : V) (L : Nat → Nat) (K X : Nat → Nat → V) : Prop where
  len : n ≤ 200
  root : isV n u = true
  all : ∀ r, r < n → OkT n (L r) (K r) (X r)

end Go.Proofs.Ytgflalfiopnmnaa.Vl
