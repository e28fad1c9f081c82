/-
  The plain mathematics of Sort: merging two rows by answers, a pass over all pieces of one size, all sizes. No Go in sight.
-/
namespace Go.Proofs.YtijlmfinbgjnmaaDoor.So

/-- Two rows put together: what was asked, and the new row, or none where an answer was 2. -/
def mg (M : Nat → Nat → Int) : List Nat → List Nat → List (Nat × Nat) × Option (List Nat)
  | [], ys => ([], some ys)
  | x :: xs, [] => ([], some (x :: xs))
  | x :: xs, y :: ys =>
    if M y x = 2 then ([(y, x)], none)
    else if M y x = 1 then ((y, x) :: (mg M (x :: xs) ys).1, (mg M (x :: xs) ys).2.map (y :: ·))
    else ((y, x) :: (mg M xs (y :: ys)).1, (mg M xs (y :: ys)).2.map (x :: ·))
termination_by xs ys => xs.length + ys.length

theorem mg_left (M : Nat → Nat → Int) (ys : List Nat) : mg M [] ys = ([], some ys) := by rw [mg]
theorem mg_right (M : Nat → Nat → Int) (xs : List Nat) : mg M xs [] = ([], some xs) := by cases xs <;> rw [mg]
theorem mg_two {M : Nat → Nat → Int} {x y : Nat} (xs ys : List Nat) (h : M y x = 2) : mg M (x :: xs) (y :: ys) = ([(y, x)], none) := by rw [mg, if_pos h]
theorem mg_one {M : Nat → Nat → Int} {x y : Nat} (xs ys : List Nat) (h : M y x = 1) : mg M (x :: xs) (y :: ys) = ((y, x) :: (mg M (x :: xs) ys).1, (mg M (x :: xs) ys).2.map (y :: ·)) := by
  rw [mg, if_neg (by omega), if_pos h]
theorem mg_zero {M : Nat → Nat → Int} {x y : Nat} (xs ys : List Nat) (h2 : ¬ M y x = 2) (h1 : ¬ M y x = 1) : mg M (x :: xs) (y :: ys) = ((y, x) :: (mg M xs (y :: ys)).1, (mg M xs (y :: ys)).2.map (x :: ·)) := by
  rw [mg, if_neg h2, if_neg h1]

/-- A piece of a row. -/
def seg (o : List Nat) (f e : Nat) : List Nat := (o.drop f).take (e - f)

/-- One size: from the place f on. -/
def pass (M : Nat → Nat → Int) (n s f : Nat) (o : List Nat) (q : List (Nat × Nat)) : List (Nat × Nat) × Option (List Nat) :=
  if f + s < n ∧ 0 < s then
    match mg M (seg o f (f + s)) (seg o (f + s) (min (f + 2 * s) n)) with
    | (a, none) => (q ++ a, none)
    | (a, some m) => pass M n s (f + 2 * s) (o.take f ++ m ++ o.drop (min (f + 2 * s) n)) (q ++ a)
  else (q, some o)
termination_by n - f
decreasing_by omega

/-- All sizes, from s on. -/
def all (M : Nat → Nat → Int) (n s : Nat) (o : List Nat) (q : List (Nat × Nat)) : List (Nat × Nat) × Option (List Nat) :=
  if s < n ∧ 0 < s then
    match pass M n s 0 o q with
    | (a, none) => (a, none)
    | (a, some m) => all M n (2 * s) m a
  else (q, some o)
termination_by n - s
decreasing_by omega

theorem pass_no {M : Nat → Nat → Int} {n s f : Nat} {o : List Nat} {q : List (Nat × Nat)} (h : ¬ f + s < n) : pass M n s f o q = (q, some o) := by rw [pass, if_neg (by omega)]
theorem pass_bad {M : Nat → Nat → Int} {n s f : Nat} {o : List Nat} {q a : List (Nat × Nat)} (h : f + s < n) (h0 : 0 < s) (hm : mg M (seg o f (f + s)) (seg o (f + s) (min (f + 2 * s) n)) = (a, none)) :
    pass M n s f o q = (q ++ a, none) := by rw [pass, if_pos ⟨h, h0⟩, hm]
theorem pass_yes {M : Nat → Nat → Int} {n s f : Nat} {o m : List Nat} {q a : List (Nat × Nat)} (h : f + s < n) (h0 : 0 < s) (hm : mg M (seg o f (f + s)) (seg o (f + s) (min (f + 2 * s) n)) = (a, some m)) :
    pass M n s f o q = pass M n s (f + 2 * s) (o.take f ++ m ++ o.drop (min (f + 2 * s) n)) (q ++ a) := by rw [pass, if_pos ⟨h, h0⟩, hm]
theorem all_no {M : Nat → Nat → Int} {n s : Nat} {o : List Nat} {q : List (Nat × Nat)} (h : ¬ s < n) : all M n s o q = (q, some o) := by rw [all, if_neg (by omega)]
theorem all_bad {M : Nat → Nat → Int} {n s : Nat} {o : List Nat} {q a : List (Nat × Nat)} (h : s < n) (h0 : 0 < s) (hm : pass M n s 0 o q = (a, none)) : all M n s o q = (a, none) := by rw [all, if_pos ⟨h, h0⟩, hm]
theorem all_yes {M : Nat → Nat → Int} {n s : Nat} {o m : List Nat} {q a : List (Nat × Nat)} (h : s < n) (h0 : 0 < s) (hm : pass M n s 0 o q = (a, some m)) : all M n s o q = all M n (2 * s) m a := by rw [all, if_pos ⟨h, h0⟩, hm]

/-- The whole sort. -/
def sorted (M : Nat → Nat → Int) (n : Nat) : List (Nat × Nat) × Option (List Nat) := all M n 1 (List.range n) []

/-- What comes out of a merge holds what went in. -/
theorem mg_perm (M : Nat → Nat → Int) (xs ys : List Nat) : ∀ {a m}, mg M xs ys = (a, some m) → List.Perm m (xs ++ ys) := by
  induction xs, ys using mg.induct M with
  | case1 ys => intro a m h; rw [mg_left] at h; cases h; exact List.Perm.refl _
  | case2 x xs => intro a m h; rw [mg_right] at h; cases h; simp
  | case3 x xs y ys h2 => intro a m h; rw [mg_two _ _ h2] at h; cases h
  | case4 x xs y ys h2 h1 ih =>
    intro a m h
    rw [mg_one _ _ h1] at h
    obtain ⟨_, e⟩ := Prod.mk.inj h
    obtain ⟨m', hm', rfl⟩ := Option.map_eq_some_iff.1 e
    have := ih (a := (mg M (x :: xs) ys).1) (m := m') (by rw [← hm'])
    exact (this.cons y).trans List.perm_middle.symm
  | case5 x xs y ys h2 h1 ih =>
    intro a m h
    rw [mg_zero _ _ h2 h1] at h
    obtain ⟨_, e⟩ := Prod.mk.inj h
    obtain ⟨m', hm', rfl⟩ := Option.map_eq_some_iff.1 e
    have := ih (a := (mg M xs (y :: ys)).1) (m := m') (by rw [← hm'])
    exact this.cons x

theorem mg_len {M : Nat → Nat → Int} {xs ys : List Nat} {a m} (h : mg M xs ys = (a, some m)) : m.length = xs.length + ys.length := by
  have := (mg_perm M xs ys h).length_eq
  simpa using this

/-- No more is asked than there are items, less one (where both rows have one). -/
theorem mg_asks (M : Nat → Nat → Int) (xs ys : List Nat) : (mg M xs ys).1.length + 1 ≤ xs.length + ys.length ∨ (mg M xs ys).1 = [] := by
  induction xs, ys using mg.induct M with
  | case1 ys => rw [mg_left]; exact Or.inr rfl
  | case2 x xs => rw [mg_right]; exact Or.inr rfl
  | case3 x xs y ys h2 => rw [mg_two _ _ h2]; left; simp; omega
  | case4 x xs y ys h2 h1 ih =>
    rw [mg_one _ _ h1]; left
    rcases ih with ih | ih
    · simp at ih ⊢; omega
    · simp [ih]; omega
  | case5 x xs y ys h2 h1 ih =>
    rw [mg_zero _ _ h2 h1]; left
    rcases ih with ih | ih
    · simp at ih ⊢; omega
    · simp [ih]; omega

theorem seg_length {o : List Nat} {f e : Nat} (he : e ≤ o.length) : (seg o f e).length = e - f := by simp [seg]; omega

end Go.Proofs.YtijlmfinbgjnmaaDoor.So
