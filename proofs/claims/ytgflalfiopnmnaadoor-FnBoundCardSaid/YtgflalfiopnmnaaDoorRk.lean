/-
  The plain mathematics of Ranked: a square of answers is that of items with ranks just if the number of those ahead is a rank. No Go in sight.
-/
namespace Go.Proofs.YtgflalfiopnmnaaDoor.Rk

/-- How many below n meet p. -/
def cnt (p : Nat → Bool) : Nat → Nat
  | 0 => 0
  | n + 1 => cnt p n + if p n then 1 else 0

theorem cnt_le (p : Nat → Bool) (n : Nat) : cnt p n ≤ n := by
  induction n with
  | zero => exact Nat.le_refl _
  | succ n ih => simp only [cnt]; split <;> omega

theorem cnt_mono {p q : Nat → Bool} (n : Nat) (h : ∀ x, x < n → p x = true → q x = true) : cnt p n ≤ cnt q n := by
  induction n with
  | zero => exact Nat.le_refl _
  | succ n ih =>
    have h1 := ih fun x hx => h x (by omega)
    have h2 := h n (by omega)
    simp only [cnt]
    cases hp : p n
    · simp; omega
    · simp [h2 hp]; omega

theorem cnt_lt {p q : Nat → Bool} (n : Nat) (h : ∀ x, x < n → p x = true → q x = true) (a : Nat) (ha : a < n) (h0 : p a = false) (h1 : q a = true) : cnt p n < cnt q n := by
  induction n with
  | zero => omega
  | succ n ih =>
    have h2 := h n (by omega)
    simp only [cnt]
    by_cases e : a = n
    · subst e
      have := cnt_mono a fun x hx => h x (by omega)
      simp [h0, h1]; omega
    · have := ih (fun x hx => h x (by omega)) (by omega)
      cases hp : p n
      · simp; omega
      · simp [h2 hp]; omega

/-- At most 200 items, as many answers for each, each 0, 1 or 2. -/
def Sq (n : Nat) (L : Nat → Nat) (M : Nat → Nat → Int) : Prop := n ≤ 200 ∧ ∀ r, r < n → L r = n ∧ ∀ c, c < n → 0 ≤ M r c ∧ M r c ≤ 2

/-- As the document has it. -/
def Rkd (n : Nat) (M : Nat → Nat → Int) : Prop := ∀ a, a < n → ∀ b, b < n → ¬ M a b = 2 ∧ ¬ (M a b = 1 ∧ M b a = 1) ∧ (M a b = 0 → ∀ c, c < n → ¬ (M b c = 0 ∧ M a c = 1))

/-- How many come ahead of b. -/
def rank (n : Nat) (M : Nat → Nat → Int) (b : Nat) : Nat := cnt (fun x => M x b == 1) n

/-- As the program has it. -/
def Cnd (n : Nat) (M : Nat → Nat → Int) : Prop := ∀ a, a < n → ∀ b, b < n → M a b = if rank n M a < rank n M b then 1 else 0

theorem cnd_iff {n : Nat} {L : Nat → Nat} {M : Nat → Nat → Int} (hs : Sq n L M) : Cnd n M ↔ Rkd n M := by
  constructor
  · intro h a ha b hb
    have e1 := h a ha b hb
    have e2 := h b hb a ha
    refine ⟨?_, ?_, ?_⟩
    · intro e; rw [e] at e1; split at e1 <;> omega
    · rintro ⟨x, y⟩
      rw [x] at e1; rw [y] at e2
      split at e1
      · split at e2 <;> omega
      · omega
    · intro x c hc ⟨y, z⟩
      have e3 := h b hb c hc
      have e4 := h a ha c hc
      rw [x] at e1; rw [y] at e3; rw [z] at e4
      split at e1
      · omega
      · split at e3
        · omega
        · split at e4 <;> omega
  · intro h a ha b hb
    have lo := fun x (hx : x < n) y (hy : y < n) => ((hs.2 x hx).2 y hy).1
    have hi := fun x (hx : x < n) y (hy : y < n) => ((hs.2 x hx).2 y hy).2
    by_cases e : M a b = 1
    · have hba : M b a = 0 := by
        have h1 := (h a ha b hb).2.1
        have h2 := (h b hb a ha).1
        have h3 := lo b hb a ha
        have h4 := hi b hb a ha
        have h5 : ¬ M b a = 1 := fun y => h1 ⟨e, y⟩
        omega
      have : rank n M a < rank n M b := by
        refine cnt_lt n (fun x hx hp => ?_) a ha ?_ ?_
        · simp only [beq_iff_eq] at hp ⊢
          have h1 := lo x hx b hb
          have h2 := hi x hx b hb
          have h3 := (h x hx b hb).1
          by_cases y : M x b = 0
          · exact absurd ⟨hba, hp⟩ ((h x hx b hb).2.2 y a ha)
          · omega
        · simp only [beq_eq_false_iff_ne]
          intro y
          exact (h a ha a ha).2.1 ⟨y, y⟩
        · simp [e]
      rw [if_pos this, e]
    · have h0 : M a b = 0 := by
        have h1 := lo a ha b hb
        have h2 := hi a ha b hb
        have h3 := (h a ha b hb).1
        omega
      have : rank n M b ≤ rank n M a := by
        refine cnt_mono n fun x hx hp => ?_
        simp only [beq_iff_eq] at hp ⊢
        have h1 := lo x hx a ha
        have h2 := hi x hx a ha
        have h3 := (h x hx a ha).1
        by_cases y : M x a = 0
        · exact absurd ⟨h0, hp⟩ ((h x hx a ha).2.2 y b hb)
        · omega
      rw [if_neg (by omega), h0]

end Go.Proofs.YtgflalfiopnmnaaDoor.Rk
