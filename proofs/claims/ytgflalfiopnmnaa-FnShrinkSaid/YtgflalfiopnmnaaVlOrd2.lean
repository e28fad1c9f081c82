import Derived.Test.YtgflalfiopnmnaaVlOrd
namespace Go.Proofs.Ytgflalfiopnmnaa.Vl
open Go

theorem ko_two {a b : V} (h : ko a b = 2) : ko b a = 2 := by
  unfold ko at h ⊢
  rw [Bool.and_comm]
  by_cases hk : (isK a && isK b) = true
  · rw [if_pos hk] at h
    split at h
    · omega
    · split at h <;> omega
  · rw [if_neg hk]

theorem less_asymm {a b : V} (h : less a b = true) : less b a = false := by
  unfold less at h ⊢
  by_cases hk : a.k = b.k
  · rw [if_pos hk] at h
    rw [if_pos hk.symm]
    by_cases h3 : a.k = 3
    · rw [if_pos h3] at h
      rw [if_pos (by omega), ← bl_total, h]
      rfl
    · rw [if_neg h3] at h
      rw [if_neg (by omega)]
      simp at h ⊢
      omega
  · rw [if_neg hk] at h
    rw [if_neg (fun e => hk e.symm)]
    simp at h ⊢
    omega

theorem ko_neg {a b : V} (h : ko a b ≠ 2) : ko b a = -(ko a b) := by
  unfold ko at h ⊢
  rw [Bool.and_comm (isK b)]
  by_cases hk : (isK a && isK b) = true
  · rw [if_pos hk, if_pos hk]
    by_cases h1 : less a b = true
    · rw [if_pos h1, less_asymm h1]; simp [h1]
    · by_cases h2 : less b a = true
      · simp [h1, h2]
      · simp [h1, h2]
  · rw [if_neg hk] at h; exact absurd rfl h

def eqV (a b : V) : Bool := a.k == b.k && (a.n == b.n && (a.s.toList == b.s.toList && a.a == b.a))

theorem key_a {v : V} (h : isK v = true) : v.a = 0 := by
  obtain ⟨k, n, s, a⟩ := v
  simp only [isK, Bool.and_eq_true, Bool.or_eq_true, beq_iff_eq] at h
  obtain ⟨hk, hv⟩ := h
  rcases hk with (rfl | rfl) | rfl <;> simp [isV] at hv <;> (show a = 0; omega)

theorem ko_zero {a b : V} (h : ko a b ≠ 2) : (ko a b == 0) = eqV a b := by
  unfold ko at h ⊢
  by_cases hk : (isK a && isK b) = true
  · rw [if_pos hk]
    obtain ⟨ha, hb⟩ := Bool.and_eq_true_iff.1 hk
    rw [Bool.eq_iff_iff]
    constructor
    · intro h0
      have h1 : less a b = false := by cases hl : less a b <;> simp [hl] at h0 ⊢
      have h2 : less b a = false := by cases hl : less b a <;> simp [hl, h1] at h0 ⊢
      unfold less at h1 h2
      have e : a.k = b.k := by
        by_cases hk : a.k = b.k
        · exact hk
        · rw [if_neg hk] at h1
          rw [if_neg (fun e => hk e.symm)] at h2
          simp at h1 h2
          omega
      rw [if_pos e] at h1
      rw [if_pos e.symm] at h2
      have za := key_a ha
      have zb := key_a hb
      have ca := key_cases ha
      have cb := key_cases hb
      by_cases h3 : a.k = 3
      · rw [if_pos h3] at h1
        rw [if_pos (by omega), ← bl_total, h1] at h2
        have hs : a.s.toList = b.s.toList := by simpa using h2
        have na : a.n = 0 := by rcases ca with h | h | h <;> first | exact h.2 | omega
        have nb : b.n = 0 := by rcases cb with h | h | h <;> first | exact h.2 | omega
        simp [eqV, e, hs, na, nb, za, zb]
      · rw [if_neg h3] at h1
        rw [if_neg (by omega)] at h2
        simp at h1 h2
        have sa : a.s.toList = [] := by rcases ca with h | h | h <;> first | exact h.2 | omega
        have sb : b.s.toList = [] := by rcases cb with h | h | h <;> first | exact h.2 | omega
        have hn : a.n = b.n := by omega
        simp [eqV, e, hn, sa, sb, za, zb]
    · intro he
      simp only [eqV, Bool.and_eq_true, beq_iff_eq] at he
      obtain ⟨e1, e2, e3, e4⟩ := he
      have h1 : less a b = false := by simp [less, e1, e2, e3, bl_irrefl]
      have h2 : less b a = false := by simp [less, e1, e2, e3, bl_irrefl]
      simp [h1, h2]
  · rw [if_neg hk] at h; exact absurd rfl h

end Go.Proofs.Ytgflalfiopnmnaa.Vl
