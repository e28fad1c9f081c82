/-
  The plain mathematics of Sort: merging two rows by answers, a pass over all pieces of one size, all sizes. No Go in sight.
-/
namespace Go.Proofs.YtgflalfiopnmnaaDoor.So

/-- Two rows put together in k steps at most: what was asked, and the new row, or none where an answer was 2. -/
def mgF (M : Nat → Nat → Int) : Nat → List Nat → List Nat → List (Nat × Nat) × Option (List Nat)
  | 0, _, ys => ([], some ys)
  | _ + 1, [], ys => ([], some ys)
  | _ + 1, x :: xs, [] => ([], some (x :: xs))
  | k + 1, x :: xs, y :: ys =>
    if M y x = 2 then ([(y, x)], none)
    else if M y x = 1 then ((y, x) :: (mgF M k (x :: xs) ys).1, (mgF M k (x :: xs) ys).2.map (y :: ·))
    else ((y, x) :: (mgF M k xs (y :: ys)).1, (mgF M k xs (y :: ys)).2.map (x :: ·))
/-- Two rows put together. -/
def mg (M : Nat → Nat → Int) (xs ys : List Nat) : List (Nat × Nat) × Option (List Nat) := mgF M (xs.length + ys.length) xs ys

theorem mgF_more (M : Nat → Nat → Int) : ∀ (k : Nat) (xs ys : List Nat), xs.length + ys.length ≤ k → mgF M (k + 1) xs ys = mgF M k xs ys := by
  intro k
  induction k with
  | zero =>
    intro xs ys h
    have e1 : xs = [] := List.length_eq_zero_iff.1 (by omega)
    have e2 : ys = [] := List.length_eq_zero_iff.1 (by omega)
    subst e1 e2
    rfl
  | succ k ih =>
    intro xs ys h
    cases xs with
    | nil => rfl
    | cons x xs =>
      cases ys with
      | nil => rfl
      | cons y ys =>
        simp only [List.length_cons] at h
        have h1 := ih (x :: xs) ys (by simp; omega)
        have h2 := ih xs (y :: ys) (by simp; omega)
        show (if M y x = 2 then _ else if M y x = 1 then ((y, x) :: (mgF M (k + 1) (x :: xs) ys).1, (mgF M (k + 1) (x :: xs) ys).2.map (y :: ·)) else ((y, x) :: (mgF M (k + 1) xs (y :: ys)).1, (mgF M (k + 1) xs (y :: ys)).2.map (x :: ·))) = _
        rw [h1, h2]
        rfl
theorem mgF_any (M : Nat → Nat → Int) (xs ys : List Nat) (d : Nat) : mgF M (xs.length + ys.length + d) xs ys = mg M xs ys := by
  induction d with
  | zero => rfl
  | succ d ih => rw [← ih]; exact mgF_more M (xs.length + ys.length + d) xs ys (by omega)
theorem mg_left (M : Nat → Nat → Int) (ys : List Nat) : mg M [] ys = ([], some ys) := by rw [← mgF_any M [] ys 1]; rfl
theorem mg_right (M : Nat → Nat → Int) (xs : List Nat) : mg M xs [] = ([], some xs) := by rw [← mgF_any M xs [] 1]; cases xs <;> rfl
theorem mg_cons (M : Nat → Nat → Int) (x y : Nat) (xs ys : List Nat) : mg M (x :: xs) (y :: ys) = if M y x = 2 then ([(y, x)], none)
    else if M y x = 1 then ((y, x) :: (mg M (x :: xs) ys).1, (mg M (x :: xs) ys).2.map (y :: ·))
    else ((y, x) :: (mg M xs (y :: ys)).1, (mg M xs (y :: ys)).2.map (x :: ·)) := by
  have h1 : mgF M (xs.length + 1 + ys.length) (x :: xs) ys = mg M (x :: xs) ys := rfl
  have h2 : mgF M (xs.length + 1 + ys.length) xs (y :: ys) = mg M xs (y :: ys) := by
    have := mgF_any M xs (y :: ys) 0
    rw [← this]
    congr 1
    simp; omega
  show mgF M (xs.length + 1 + ys.length + 1) (x :: xs) (y :: ys) = _
  rw [← h1, ← h2]
  rfl
theorem mg_two {M : Nat → Nat → Int} {x y : Nat} (xs ys : List Nat) (h : M y x = 2) : mg M (x :: xs) (y :: ys) = ([(y, x)], none) := by rw [mg_cons, if_pos h]
theorem mg_one {M : Nat → Nat → Int} {x y : Nat} (xs ys : List Nat) (h : M y x = 1) : mg M (x :: xs) (y :: ys) = ((y, x) :: (mg M (x :: xs) ys).1, (mg M (x :: xs) ys).2.map (y :: ·)) := by
  rw [mg_cons, if_neg (by omega), if_pos h]
theorem mg_zero {M : Nat → Nat → Int} {x y : Nat} (xs ys : List Nat) (h2 : ¬ M y x = 2) (h1 : ¬ M y x = 1) : mg M (x :: xs) (y :: ys) = ((y, x) :: (mg M xs (y :: ys)).1, (mg M xs (y :: ys)).2.map (x :: ·)) := by
  rw [mg_cons, if_neg h2, if_neg h1]
/-- As a merge goes. -/
theorem mg_ind (M : Nat → Nat → Int) {motive : List Nat → List Nat → Prop} (case1 : ∀ ys, motive [] ys) (case2 : ∀ x xs, motive (x :: xs) []) (case3 : ∀ x xs y ys, M y x = 2 → motive (x :: xs) (y :: ys))
    (case4 : ∀ x xs y ys, ¬ M y x = 2 → M y x = 1 → motive (x :: xs) ys → motive (x :: xs) (y :: ys)) (case5 : ∀ x xs y ys, ¬ M y x = 2 → ¬ M y x = 1 → motive xs (y :: ys) → motive (x :: xs) (y :: ys)) (xs ys : List Nat) : motive xs ys := by
  induction hk : xs.length + ys.length using Nat.strongRecOn generalizing xs ys with
  | _ k ih =>
    cases xs with
    | nil => exact case1 ys
    | cons x xs =>
      cases ys with
      | nil => exact case2 x xs
      | cons y ys =>
        simp only [List.length_cons] at hk
        by_cases h2 : M y x = 2
        · exact case3 x xs y ys h2
        · by_cases h1 : M y x = 1
          · exact case4 x xs y ys h2 h1 (ih ((x :: xs).length + ys.length) (by simp; omega) (x :: xs) ys rfl)
          · exact case5 x xs y ys h2 h1 (ih (xs.length + (y :: ys).length) (by simp; omega) xs (y :: ys) rfl)

/-- A piece of a row. -/
def seg (o : List Nat) (f e : Nat) : List Nat := (o.drop f).take (e - f)

/-- One size, k steps at most: from the place f on. -/
def passF (M : Nat → Nat → Int) (n s : Nat) : Nat → Nat → List Nat → List (Nat × Nat) → List (Nat × Nat) × Option (List Nat)
  | 0, _, o, q => (q, some o)
  | k + 1, f, o, q =>
    if f + s < n ∧ 0 < s then
      match mg M (seg o f (f + s)) (seg o (f + s) (min (f + 2 * s) n)) with
      | (a, none) => (q ++ a, none)
      | (a, some m) => passF M n s k (f + 2 * s) (o.take f ++ m ++ o.drop (min (f + 2 * s) n)) (q ++ a)
    else (q, some o)
/-- One size: from the place f on. -/
def pass (M : Nat → Nat → Int) (n s f : Nat) (o : List Nat) (q : List (Nat × Nat)) : List (Nat × Nat) × Option (List Nat) := passF M n s (n - f) f o q

theorem passF_no {M : Nat → Nat → Int} {n s : Nat} (k : Nat) {f : Nat} {o : List Nat} {q : List (Nat × Nat)} (h : ¬ (f + s < n ∧ 0 < s)) : passF M n s k f o q = (q, some o) := by
  cases k with
  | zero => rfl
  | succ k => rw [passF, if_neg h]
theorem passF_more (M : Nat → Nat → Int) (n s : Nat) : ∀ (k f : Nat) (o : List Nat) (q : List (Nat × Nat)), n - f ≤ k → passF M n s (k + 1) f o q = passF M n s k f o q := by
  intro k
  induction k with
  | zero => intro f o q h; rw [passF_no _ (by omega), passF_no _ (by omega)]
  | succ k ih =>
    intro f o q h
    by_cases hc : f + s < n ∧ 0 < s
    · rw [passF, if_pos hc]
      conv => rhs; rw [passF, if_pos hc]
      rcases hm : mg M (seg o f (f + s)) (seg o (f + s) (min (f + 2 * s) n)) with ⟨a, r⟩
      cases r with
      | none => rfl
      | some m => exact ih _ _ _ (by omega)
    · rw [passF_no _ hc, passF_no _ hc]
theorem passF_any (M : Nat → Nat → Int) (n s f : Nat) (o : List Nat) (q : List (Nat × Nat)) (d : Nat) : passF M n s (n - f + d) f o q = pass M n s f o q := by
  induction d with
  | zero => rfl
  | succ d ih => rw [← ih]; exact passF_more M n s (n - f + d) f o q (by omega)

/-- All sizes, k at most, from s on. -/
def allF (M : Nat → Nat → Int) (n : Nat) : Nat → Nat → List Nat → List (Nat × Nat) → List (Nat × Nat) × Option (List Nat)
  | 0, _, o, q => (q, some o)
  | k + 1, s, o, q =>
    if s < n ∧ 0 < s then
      match pass M n s 0 o q with
      | (a, none) => (a, none)
      | (a, some m) => allF M n k (2 * s) m a
    else (q, some o)
/-- All sizes, from s on. -/
def all (M : Nat → Nat → Int) (n s : Nat) (o : List Nat) (q : List (Nat × Nat)) : List (Nat × Nat) × Option (List Nat) := allF M n (n - s) s o q

theorem allF_no {M : Nat → Nat → Int} {n : Nat} (k : Nat) {s : Nat} {o : List Nat} {q : List (Nat × Nat)} (h : ¬ (s < n ∧ 0 < s)) : allF M n k s o q = (q, some o) := by
  cases k with
  | zero => rfl
  | succ k => rw [allF, if_neg h]
theorem allF_more (M : Nat → Nat → Int) (n : Nat) : ∀ (k s : Nat) (o : List Nat) (q : List (Nat × Nat)), n - s ≤ k → allF M n (k + 1) s o q = allF M n k s o q := by
  intro k
  induction k with
  | zero => intro s o q h; rw [allF_no _ (by omega), allF_no _ (by omega)]
  | succ k ih =>
    intro s o q h
    by_cases hc : s < n ∧ 0 < s
    · rw [allF, if_pos hc]
      conv => rhs; rw [allF, if_pos hc]
      rcases hm : pass M n s 0 o q with ⟨a, r⟩
      cases r with
      | none => rfl
      | some m => exact ih _ _ _ (by omega)
    · rw [allF_no _ hc, allF_no _ hc]
theorem allF_any (M : Nat → Nat → Int) (n s : Nat) (o : List Nat) (q : List (Nat × Nat)) (d : Nat) : allF M n (n - s + d) s o q = all M n s o q := by
  induction d with
  | zero => rfl
  | succ d ih => rw [← ih]; exact allF_more M n (n - s + d) s o q (by omega)

theorem pass_no {M : Nat → Nat → Int} {n s f : Nat} {o : List Nat} {q : List (Nat × Nat)} (h : ¬ f + s < n) : pass M n s f o q = (q, some o) := passF_no _ (by omega)
theorem pass_bad {M : Nat → Nat → Int} {n s f : Nat} {o : List Nat} {q a : List (Nat × Nat)} (h : f + s < n) (h0 : 0 < s) (hm : mg M (seg o f (f + s)) (seg o (f + s) (min (f + 2 * s) n)) = (a, none)) :
    pass M n s f o q = (q ++ a, none) := by rw [← passF_any M n s f o q 1, passF, if_pos ⟨h, h0⟩, hm]
theorem pass_yes {M : Nat → Nat → Int} {n s f : Nat} {o m : List Nat} {q a : List (Nat × Nat)} (h : f + s < n) (h0 : 0 < s) (hm : mg M (seg o f (f + s)) (seg o (f + s) (min (f + 2 * s) n)) = (a, some m)) :
    pass M n s f o q = pass M n s (f + 2 * s) (o.take f ++ m ++ o.drop (min (f + 2 * s) n)) (q ++ a) := by
  rw [← passF_any M n s f o q 1, passF, if_pos ⟨h, h0⟩, hm]
  have e : n - f = n - (f + 2 * s) + (n - f - (n - (f + 2 * s))) := by omega
  show passF M n s (n - f) (f + 2 * s) _ _ = _
  rw [e, passF_any]
theorem all_no {M : Nat → Nat → Int} {n s : Nat} {o : List Nat} {q : List (Nat × Nat)} (h : ¬ s < n) : all M n s o q = (q, some o) := allF_no _ (by omega)
theorem all_bad {M : Nat → Nat → Int} {n s : Nat} {o : List Nat} {q a : List (Nat × Nat)} (h : s < n) (h0 : 0 < s) (hm : pass M n s 0 o q = (a, none)) : all M n s o q = (a, none) := by rw [← allF_any M n s o q 1, allF, if_pos ⟨h, h0⟩, hm]
theorem all_yes {M : Nat → Nat → Int} {n s : Nat} {o m : List Nat} {q a : List (Nat × Nat)} (h : s < n) (h0 : 0 < s) (hm : pass M n s 0 o q = (a, some m)) : all M n s o q = all M n (2 * s) m a := by
  rw [← allF_any M n s o q 1, allF, if_pos ⟨h, h0⟩, hm]
  have e : n - s = n - 2 * s + (n - s - (n - 2 * s)) := by omega
  show allF M n (n - s) (2 * s) _ _ = _
  rw [e, allF_any]

/-- The whole sort. -/
def sorted (M : Nat → Nat → Int) (n : Nat) : List (Nat × Nat) × Option (List Nat) := all M n 1 (List.range n) []

/-- What comes out of a merge holds what went in. -/
theorem mg_perm (M : Nat → Nat → Int) (xs ys : List Nat) : ∀ {a m}, mg M xs ys = (a, some m) → List.Perm m (xs ++ ys) := by
  induction xs, ys using mg_ind M with
  | case1 ys => intro a m h; rw [mg_left] at h; cases h; exact List.Perm.refl _
  | case2 x xs => intro a m h; rw [mg_right] at h; cases h; simp
  | case3 x xs y ys h2 => intro a m h; rw [mg_two _ _ h2] at h; cases h
  | case4 x xs y ys h2 h1 ih =>
    intro a m h
    rw [mg_one _ _ h1] at h
    obtain ⟨_, e⟩ := Prod.mk.inj h
    obtain ⟨m', hm', rfl⟩ := Option.map_eq_some_iff.1 e
    have := ih (a := (mg M (x :: xs) ys).1) (m := m') (by rw [← hm'])
    exact (this.cons y).trans List.perm_middle.symm
  | case5 x xs y ys h2 h1 ih =>
    intro a m h
    rw [mg_zero _ _ h2 h1] at h
    obtain ⟨_, e⟩ := Prod.mk.inj h
    obtain ⟨m', hm', rfl⟩ := Option.map_eq_some_iff.1 e
    have := ih (a := (mg M xs (y :: ys)).1) (m := m') (by rw [← hm'])
    exact this.cons x

theorem mg_len {M : Nat → Nat → Int} {xs ys : List Nat} {a m} (h : mg M xs ys = (a, some m)) : m.length = xs.length + ys.length := by
  have := (mg_perm M xs ys h).length_eq
  simpa using this

/-- No more is asked than there are items, less one (where both rows have one). -/
theorem mg_asks (M : Nat → Nat → Int) (xs ys : List Nat) : (mg M xs ys).1.length + 1 ≤ xs.length + ys.length ∨ (mg M xs ys).1 = [] := by
  induction xs, ys using mg_ind M with
  | case1 ys => rw [mg_left]; exact Or.inr rfl
  | case2 x xs => rw [mg_right]; exact Or.inr rfl
  | case3 x xs y ys h2 => rw [mg_two _ _ h2]; left; simp; omega
  | case4 x xs y ys h2 h1 ih =>
    rw [mg_one _ _ h1]; left
    rcases ih with ih | ih
    · simp at ih ⊢; omega
    · simp [ih]; omega
  | case5 x xs y ys h2 h1 ih =>
    rw [mg_zero _ _ h2 h1]; left
    rcases ih with ih | ih
    · simp at ih ⊢; omega
    · simp [ih]; omega

theorem seg_length {o : List Nat} {f e : Nat} (he : e ≤ o.length) : (seg o f e).length = e - f := by simp [seg]; omega

end Go.Proofs.YtgflalfiopnmnaaDoor.So
