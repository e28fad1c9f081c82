/-
  The plain mathematics of MostAsked: two loops over numbers. No Go in sight.
-/
namespace Go.Proofs.YtgflalfiopnmnaaDoor.Mm

/-- One size, k steps at most: from the place f on, the count a so far. -/
def innerF (n s : Nat) : Nat → Nat → Nat → Nat
  | 0, _, a => a
  | k + 1, f, a => if f + s < n ∧ 0 < s then innerF n s k (f + 2 * s) (a + (min (f + 2 * s) n - f - 1)) else a
/-- One size. -/
def inner (n s f a : Nat) : Nat := innerF n s (n - f) f a
theorem innerF_more (n s : Nat) : ∀ (k f a : Nat), n - f ≤ k → innerF n s (k + 1) f a = innerF n s k f a := by
  intro k
  induction k with
  | zero => intro f a h; show (if f + s < n ∧ 0 < s then _ else a) = a; rw [if_neg (by omega)]
  | succ k ih =>
    intro f a h
    show (if f + s < n ∧ 0 < s then innerF n s (k + 1) (f + 2 * s) _ else a) = (if f + s < n ∧ 0 < s then innerF n s k (f + 2 * s) _ else a)
    by_cases hc : f + s < n ∧ 0 < s
    · rw [if_pos hc, if_pos hc, ih _ _ (by omega)]
    · rw [if_neg hc, if_neg hc]
theorem innerF_any (n s f a d : Nat) : innerF n s (n - f + d) f a = inner n s f a := by
  induction d with
  | zero => rfl
  | succ d ih => rw [← ih]; exact innerF_more n s (n - f + d) f a (by omega)
theorem inner_eq (n s f a : Nat) : inner n s f a = if f + s < n ∧ 0 < s then inner n s (f + 2 * s) (a + (min (f + 2 * s) n - f - 1)) else a := by
  by_cases hc : f + s < n ∧ 0 < s
  · rw [if_pos hc]
    have e : n - f = (n - f - 1) + 1 := by omega
    have e2 : n - f - 1 = n - (f + 2 * s) + (n - f - 1 - (n - (f + 2 * s))) := by omega
    show innerF n s (n - f) f a = _
    rw [e]
    show (if f + s < n ∧ 0 < s then innerF n s (n - f - 1) (f + 2 * s) _ else a) = _
    rw [if_pos hc, e2, innerF_any]
  · rw [if_neg hc, ← innerF_any n s f a 1]
    show (if f + s < n ∧ 0 < s then _ else a) = a
    rw [if_neg hc]

/-- All sizes, k at most, from s on. -/
def outerF (n : Nat) : Nat → Nat → Nat → Nat
  | 0, _, a => a
  | k + 1, s, a => if s < n ∧ 0 < s then outerF n k (2 * s) (inner n s 0 a) else a
/-- All sizes. -/
def outer (n s a : Nat) : Nat := outerF n (n - s) s a
theorem outerF_more (n : Nat) : ∀ (k s a : Nat), n - s ≤ k → outerF n (k + 1) s a = outerF n k s a := by
  intro k
  induction k with
  | zero => intro s a h; show (if s < n ∧ 0 < s then _ else a) = a; rw [if_neg (by omega)]
  | succ k ih =>
    intro s a h
    show (if s < n ∧ 0 < s then outerF n (k + 1) (2 * s) _ else a) = (if s < n ∧ 0 < s then outerF n k (2 * s) _ else a)
    by_cases hc : s < n ∧ 0 < s
    · rw [if_pos hc, if_pos hc, ih _ _ (by omega)]
    · rw [if_neg hc, if_neg hc]
theorem outerF_any (n s a d : Nat) : outerF n (n - s + d) s a = outer n s a := by
  induction d with
  | zero => rfl
  | succ d ih => rw [← ih]; exact outerF_more n (n - s + d) s a (by omega)
theorem outer_eq (n s a : Nat) : outer n s a = if s < n ∧ 0 < s then outer n (2 * s) (inner n s 0 a) else a := by
  by_cases hc : s < n ∧ 0 < s
  · rw [if_pos hc]
    have e : n - s = (n - s - 1) + 1 := by omega
    have e2 : n - s - 1 = n - 2 * s + (n - s - 1 - (n - 2 * s)) := by omega
    show outerF n (n - s) s a = _
    rw [e]
    show (if s < n ∧ 0 < s then outerF n (n - s - 1) (2 * s) _ else a) = _
    rw [if_pos hc, e2, outerF_any]
  · rw [if_neg hc, ← outerF_any n s a 1]
    show (if s < n ∧ 0 < s then _ else a) = a
    rw [if_neg hc]

theorem inner_yes {n s f a : Nat} (h : f + s < n) (h0 : 0 < s) : inner n s f a = inner n s (f + 2 * s) (a + (min (f + 2 * s) n - f - 1)) := by
  rw [inner_eq, if_pos ⟨h, h0⟩]
theorem inner_no {n s f a : Nat} (h : ¬ f + s < n) : inner n s f a = a := by
  rw [inner_eq, if_neg (by omega)]
theorem outer_yes {n s a : Nat} (h : s < n) (h0 : 0 < s) : outer n s a = outer n (2 * s) (inner n s 0 a) := by
  rw [outer_eq, if_pos ⟨h, h0⟩]
theorem outer_no {n s a : Nat} (h : ¬ s < n) : outer n s a = a := by
  rw [outer_eq, if_neg (by omega)]

end Go.Proofs.YtgflalfiopnmnaaDoor.Mm
