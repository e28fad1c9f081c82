import Derived.Test.YtgflalfiopnmnaaGreatDoorVlVal
import GoSem.Op.String
import Derived.Laws.Strings
/-
  The order of keys. No Go in sight.
-/
namespace Go.Proofs.YtgflalfiopnmnaaGreatDoor.Vl
open Go

theorem bl_irrefl : ∀ x : List UInt8, Op.bytesLess x x = false
  | [] => rfl
  | a :: x => by simp [Op.bytesLess, bl_irrefl x]

theorem bl_total : ∀ x y : List UInt8, (!(Op.bytesLess x y || x == y)) = Op.bytesLess y x
  | [], [] => by simp [Op.bytesLess]
  | [], _ :: _ => by simp [Op.bytesLess]
  | _ :: _, [] => by simp [Op.bytesLess]
  | a :: x, b :: y => by
    have ih := bl_total x y
    by_cases h : a = b
    · subst h
      simp only [Op.bytesLess, UInt8.lt_irrefl, decide_false, beq_self_eq_true, Bool.true_and, Bool.false_or]
      rw [← ih]
      simp
    · have h1 : (a == b) = false := by simpa using h
      have h2 : (b == a) = false := by simpa using fun e => h e.symm
      have h3 : ((a :: x) == (b :: y)) = false := by simp [h]
      simp only [Op.bytesLess, h1, h2, h3, Bool.false_and, Bool.or_false]
      by_cases h4 : a < b
      · have : ¬ b < a := UInt8.lt_asymm h4
        simp [h4, this]
      · have : b < a := by
          rcases UInt8.lt_or_lt_of_ne h with h5 | h5
          · exact absurd h5 h4
          · exact h5
        simp [h4, this]

def less (a b : V) : Bool := if a.k = b.k then (if a.k = 3 then Op.bytesLess a.s.toList b.s.toList else decide (a.n < b.n)) else decide (a.k < b.k)

/-- What the specification says. -/
def ko (a b : V) : Int := if (isK a && isK b) = true then (if less a b then -1 else if less b a then 1 else 0) else 2

def cmpI (a b : Int) : Int := if a < b then -1 else if b < a then 1 else 0
def cmpS (a b : ByteArray) : Int := if Op.bytesLess a.toList b.toList then -1 else if (!(Op.bytesLess a.toList b.toList || a.toList == b.toList)) = true then 1 else 0
def orI (a b c : Int) : Int := if a ≠ 0 then a else if b ≠ 0 then b else c

theorem key_cases {v : V} (h : isK v = true) : (v.k = 1 ∧ v.s.toList = []) ∨ (v.k = 2 ∧ v.s.toList = []) ∨ (v.k = 3 ∧ v.n = 0) := by
  obtain ⟨k, n, s, a⟩ := v
  simp only [isK, Bool.and_eq_true, Bool.or_eq_true, beq_iff_eq] at h
  obtain ⟨hk, hv⟩ := h
  rcases hk with (rfl | rfl) | rfl
  · simp [isV] at hv; exact Or.inl ⟨rfl, hv.2.1⟩
  · simp [isV] at hv; exact Or.inr (Or.inl ⟨rfl, hv.1⟩)
  · simp [isV] at hv; exact Or.inr (Or.inr ⟨rfl, hv.1⟩)

theorem ko_eq {a b : V} (ha : isK a = true) (hb : isK b = true) : orI (cmpI a.k b.k) (cmpI a.n b.n) (cmpS a.s b.s) = ko a b := by
  unfold ko
  rw [ha, hb, if_pos (by rfl : (true && true) = true)]
  by_cases hk : a.k = b.k
  · have h0 : cmpI a.k b.k = 0 := by unfold cmpI; rw [if_neg (by omega), if_neg (by omega)]
    have hk' : b.k = a.k := hk.symm
    unfold orI less
    rw [h0, if_neg (by simp), if_pos hk, if_pos hk']
    by_cases h3 : a.k = 3
    · have h3' : b.k = 3 := by omega
      rw [if_pos h3, if_pos h3']
      have na : a.n = 0 := by rcases key_cases ha with h | h | h <;> first | exact h.2 | omega
      have nb : b.n = 0 := by rcases key_cases hb with h | h | h <;> first | exact h.2 | omega
      have h1 : cmpI a.n b.n = 0 := by unfold cmpI; rw [if_neg (by omega), if_neg (by omega)]
      rw [h1, if_neg (by simp)]
      unfold cmpS
      rw [bl_total]
    · have h3' : ¬ b.k = 3 := by omega
      rw [if_neg h3, if_neg h3']
      have sa : a.s.toList = [] := by rcases key_cases ha with h | h | h <;> first | exact h.2 | omega
      have sb : b.s.toList = [] := by rcases key_cases hb with h | h | h <;> first | exact h.2 | omega
      have h1 : cmpS a.s b.s = 0 := by unfold cmpS; rw [sa, sb]; simp [Op.bytesLess]
      rw [h1]
      unfold cmpI
      by_cases l1 : a.n < b.n
      · simp [l1]
      · by_cases l2 : b.n < a.n
        · simp [l1, l2]
        · simp [l1, l2]
  · have hk' : ¬ b.k = a.k := fun e => hk e.symm
    unfold orI less cmpI
    rw [if_neg hk, if_neg hk']
    by_cases l1 : a.k < b.k
    · simp [l1]
    · have l2 : b.k < a.k := by omega
      simp [l1, l2]

end Go.Proofs.YtgflalfiopnmnaaGreatDoor.Vl
