import Derived.Test.YtgflalfiopnmnabLkLink2
namespace Go.Proofs.Ytgflalfiopnmnab
open Go.RowKit Vl

theorem bytes_empty {s : ByteArray} (h : s.toList = []) : s = ⟨#[]⟩ := by
  rw [ByteArray.toList_eq] at h
  obtain ⟨⟨l⟩⟩ := s
  simp at h
  subst h
  rfl

def zeroV : V := ⟨0, 0, ⟨#[]⟩, 0⟩

/-- What a table has at a key. -/
def atKey (L : Nat) (K X : Nat → V) (k : V) : V :=
  match (List.range L).find? (fun j => eqV (K j) k) with
  | some j => X j
  | none => zeroV

theorem atKey_hit {L : Nat} {K X : Nat → V} {k : V} {j : Nat} (hj : j < L) (h : eqV (K j) k = true) (hb : ∀ i, i < j → eqV (K i) k = false) : atKey L K X k = X j := by
  have : (List.range L).find? (fun j => eqV (K j) k) = some j := by
    rw [List.find?_range_eq_some]
    exact ⟨h, List.mem_range.2 hj, fun i hi => by rw [hb i hi]; rfl⟩
  unfold atKey
  rw [this]
theorem atKey_none {L : Nat} {K X : Nat → V} {k : V} (h : ∀ j, j < L → eqV (K j) k = false) : atKey L K X k = zeroV := by
  have : (List.range L).find? (fun j => eqV (K j) k) = none := by
    rw [List.find?_eq_none]
    intro j hj
    rw [h j (List.mem_range.1 hj)]
    simp
  unfold atKey
  rw [this]

theorem find_js {v : V} {K : Nat → V} {f : Nat → Value} : ∀ (js : List Nat), findV v (js.map fun j => (K j, f j)) = (js.find? (fun j => eqV (K j) v)).map f
  | [] => rfl
  | j :: js => by
    simp only [List.map_cons, findV, List.find?_cons]
    rw [eqV_comm v (K j)]
    cases h : eqV (K j) v
    · simp only [Bool.false_eq_true, if_false]; exact find_js js
    · simp

theorem find_mp (Tt : Nat → Nat) (K X : Nat → V) (L : Nat) (k : V) : (findV k (mp Tt K X L)).getD (ifv Tt zeroV) = ifv Tt (atKey L K X k) := by
  unfold mp atKey
  rw [find_js]
  cases (List.range L).find? (fun j => eqV (K j) k) <;> rfl

/-- One step along a path. -/
def step (L : Nat → Nat) (K X : Nat → Nat → V) (v k : V) : V := if v.k = 4 then atKey (L v.a.toNat) (K v.a.toNat) (X v.a.toNat) k else zeroV
/-- Where the first i keys lead. -/
def lead (u : V) (L : Nat → Nat) (K X : Nat → Nat → V) (P : Nat → V) : Nat → V
  | 0 => u
  | i + 1 => step L K X (lead u L K X P i) (P i)

theorem zero_stays {L : Nat → Nat} {K X : Nat → Nat → V} {u : V} {P : Nat → V} {i : Nat} (h : (lead u L K X P i).k ≠ 4) : ∀ j, lead u L K X P (i + 1 + j) = zeroV
  | 0 => by show step L K X (lead u L K X P i) (P i) = zeroV; unfold step; rw [if_neg h]
  | j + 1 => by
    show step L K X (lead u L K X P (i + 1 + j)) (P (i + 1 + j)) = zeroV
    rw [zero_stays h j]
    rfl

theorem isV_zero (n : Nat) : isV n zeroV = true := by
  simp [isV, zeroV, ByteArray.toList_eq]

theorem isV_at {n L : Nat} {K X : Nat → V} (h : OkT n L K X) (k : V) : isV n (atKey L K X k) = true := by
  unfold atKey
  cases hf : (List.range L).find? (fun j => eqV (K j) k) with
  | none => exact isV_zero n
  | some j =>
    have := List.mem_of_find?_eq_some hf
    exact (h.all j (List.mem_range.1 this)).val

theorem isV_tab {n : Nat} {v : V} (h : isV n v = true) (h4 : v.k = 4) : 0 ≤ v.a ∧ v.a < n := by
  obtain ⟨k, m, s, a⟩ := v
  subst h4
  simp [isV] at h
  exact ⟨h.2.2.1, h.2.2.2⟩

theorem isV_lead {n : Nat} {u : V} {L : Nat → Nat} {K X : Nat → Nat → V} {P : Nat → V} (h : OkG n u L K X) : ∀ i, isV n (lead u L K X P i) = true
  | 0 => h.root
  | i + 1 => by
    show isV n (step L K X (lead u L K X P i) (P i)) = true
    unfold step
    by_cases h4 : (lead u L K X P i).k = 4
    · rw [if_pos h4]
      have := isV_tab (isV_lead h i) h4
      exact isV_at (h.all _ (by omega)) _
    · rw [if_neg h4]; exact isV_zero n

end Go.Proofs.Ytgflalfiopnmnab
