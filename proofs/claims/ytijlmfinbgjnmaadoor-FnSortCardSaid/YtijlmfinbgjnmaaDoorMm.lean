/-
  The plain mathematics of MostAsked: two loops over numbers. No Go in sight.
-/
namespace Go.Proofs.YtijlmfinbgjnmaaDoor.Mm

/-- One size: from the place f on, the count a so far. -/
def inner (n s f a : Nat) : Nat := if f + s < n ∧ 0 < s then inner n s (f + 2 * s) (a + (min (f + 2 * s) n - f - 1)) else a
termination_by n - f
decreasing_by omega

/-- All sizes, from s on. -/
def outer (n s a : Nat) : Nat := if s < n ∧ 0 < s then outer n (2 * s) (inner n s 0 a) else a
termination_by n - s
decreasing_by omega

theorem inner_yes {n s f a : Nat} (h : f + s < n) (h0 : 0 < s) : inner n s f a = inner n s (f + 2 * s) (a + (min (f + 2 * s) n - f - 1)) := by
  rw [inner, if_pos ⟨h, h0⟩]
theorem inner_no {n s f a : Nat} (h : ¬ f + s < n) : inner n s f a = a := by
  rw [inner, if_neg (by omega)]
theorem outer_yes {n s a : Nat} (h : s < n) (h0 : 0 < s) : outer n s a = outer n (2 * s) (inner n s 0 a) := by
  rw [outer, if_pos ⟨h, h0⟩]
theorem outer_no {n s a : Nat} (h : ¬ s < n) : outer n s a = a := by
  rw [outer, if_neg (by omega)]

end Go.Proofs.YtijlmfinbgjnmaaDoor.Mm
