/-
  The steps of a merge, as a loop takes them. No Go in sight.
-/
import Derived.Test.YtgflalfiopnmnaaDoorSo
namespace Go.Proofs.YtgflalfiopnmnaaDoor.So

/-- a and r are what a merge of xs and ys gives; i of xs and j of ys are gone, p was asked, o came out. -/
def At (M : Nat → Nat → Int) (xs ys : List Nat) (i j : Nat) (p : List (Nat × Nat)) (o : List Nat) (a : List (Nat × Nat)) (r : Option (List Nat)) : Prop :=
  p ++ (mg M (xs.drop i) (ys.drop j)).1 = a ∧ (mg M (xs.drop i) (ys.drop j)).2.map (o ++ ·) = r

theorem drop_get {l : List Nat} {i x : Nat} (h : l[i]? = some x) : l.drop i = x :: l.drop (i + 1) := by
  obtain ⟨hl, rfl⟩ := List.getElem?_eq_some_iff.1 h
  exact List.drop_eq_getElem_cons hl

theorem At.start {M : Nat → Nat → Int} {xs ys : List Nat} {a r} (h : mg M xs ys = (a, r)) : At M xs ys 0 0 [] [] a r := by
  refine ⟨by simp [h], ?_⟩
  simp [h]

theorem At.two {M : Nat → Nat → Int} {xs ys : List Nat} {i j : Nat} {p o a r} {x y : Nat} (h : At M xs ys i j p o a r) (hx : xs[i]? = some x) (hy : ys[j]? = some y) (e : M y x = 2) : a = p ++ [(y, x)] ∧ r = none := by
  obtain ⟨h1, h2⟩ := h
  rw [drop_get hx, drop_get hy, mg_two _ _ e] at h1 h2
  exact ⟨h1.symm, h2.symm⟩

theorem At.one {M : Nat → Nat → Int} {xs ys : List Nat} {i j : Nat} {p o a r} {x y : Nat} (h : At M xs ys i j p o a r) (hx : xs[i]? = some x) (hy : ys[j]? = some y) (e : M y x = 1) : At M xs ys i (j + 1) (p ++ [(y, x)]) (o ++ [y]) a r := by
  obtain ⟨h1, h2⟩ := h
  rw [drop_get hx, drop_get hy, mg_one _ _ e, ← drop_get hx] at h1 h2
  refine ⟨by rw [← h1]; simp, ?_⟩
  rw [← h2, Option.map_map]
  congr 1
  funext z
  simp

theorem At.zero {M : Nat → Nat → Int} {xs ys : List Nat} {i j : Nat} {p o a r} {x y : Nat} (h : At M xs ys i j p o a r) (hx : xs[i]? = some x) (hy : ys[j]? = some y) (e2 : ¬ M y x = 2) (e1 : ¬ M y x = 1) : At M xs ys (i + 1) j (p ++ [(y, x)]) (o ++ [x]) a r := by
  obtain ⟨h1, h2⟩ := h
  rw [drop_get hx, drop_get hy, mg_zero _ _ e2 e1, ← drop_get hy] at h1 h2
  refine ⟨by rw [← h1]; simp, ?_⟩
  rw [← h2, Option.map_map]
  congr 1
  funext z
  simp

theorem At.done {M : Nat → Nat → Int} {xs ys : List Nat} {i j : Nat} {p o a r} (h : At M xs ys i j p o a r) (e : xs.length ≤ i ∨ ys.length ≤ j) : a = p ∧ r = some (o ++ xs.drop i ++ ys.drop j) := by
  obtain ⟨h1, h2⟩ := h
  rcases e with e | e
  · rw [List.drop_eq_nil_of_le e, mg_left] at h1 h2
    rw [List.drop_eq_nil_of_le e, ← h1, ← h2]; simp
  · rw [List.drop_eq_nil_of_le e, mg_right] at h1 h2
    rw [List.drop_eq_nil_of_le e, ← h1, ← h2]; simp

end Go.Proofs.YtgflalfiopnmnaaDoor.So
