/-
  The plain mathematics of FnBound: how much a sort asks at the most; how a sort of items that stand in order goes. No Go in sight.
-/
import Derived.Test.YtgflalfiopnmnaaDoorSo
import Derived.Test.YtgflalfiopnmnaaDoorMm
namespace Go.Proofs.YtgflalfiopnmnaaDoor.So
open Mm

theorem inner_mono {n s : Nat} : ∀ {f a b : Nat}, a ≤ b → inner n s f a ≤ inner n s f b := by
  intro f a b h
  induction hk : n - f using Nat.strongRecOn generalizing f a b with
  | _ k ih =>
    by_cases hc : f + s < n ∧ 0 < s
    · rw [inner_yes hc.1 hc.2, inner_yes hc.1 hc.2]
      exact ih (n - (f + 2 * s)) (by omega) (by omega) rfl
    · rw [inner_eq, if_neg hc, inner_eq, if_neg hc]; exact h
theorem outer_mono {n : Nat} : ∀ {s a b : Nat}, a ≤ b → outer n s a ≤ outer n s b := by
  intro s a b h
  induction hk : n - s using Nat.strongRecOn generalizing s a b with
  | _ k ih =>
    by_cases hc : s < n ∧ 0 < s
    · rw [outer_yes hc.1 hc.2, outer_yes hc.1 hc.2]
      exact ih (n - (2 * s)) (by omega) (inner_mono h) rfl
    · rw [outer_eq, if_neg hc, outer_eq, if_neg hc]; exact h

/-- What stands behind a step: as many items. -/
theorem step_len {o m : List Nat} {f k e n : Nat} (hl : o.length = n) (hf : f ≤ k) (hk : k ≤ e) (he : e ≤ n) (hm : m.length = (seg o f k).length + (seg o k e).length) : (o.take f ++ m ++ o.drop e).length = n := by
  rw [seg_length (by omega), seg_length (by omega)] at hm
  simp [hm]; omega

theorem inner_ge {n s : Nat} : ∀ {f a : Nat}, a ≤ inner n s f a := by
  intro f a
  induction hk : n - f using Nat.strongRecOn generalizing f a with
  | _ k ih =>
    by_cases hc : f + s < n ∧ 0 < s
    · rw [inner_yes hc.1 hc.2]
      exact Nat.le_trans (by omega) (ih (n - (f + 2 * s)) (by omega) rfl)
    · rw [inner_eq, if_neg hc]; exact Nat.le_refl _
theorem outer_ge {n : Nat} : ∀ {s a : Nat}, a ≤ outer n s a := by
  intro s a
  induction hk : n - s using Nat.strongRecOn generalizing s a with
  | _ k ih =>
    by_cases hc : s < n ∧ 0 < s
    · rw [outer_yes hc.1 hc.2]
      exact Nat.le_trans inner_ge (ih (n - (2 * s)) (by omega) rfl)
    · rw [outer_eq, if_neg hc]; exact Nat.le_refl _

theorem pass_asks (M : Nat → Nat → Int) {n s : Nat} (h0 : 0 < s) : ∀ {f : Nat} {o : List Nat} {q a r}, o.length = n → pass M n s f o q = (a, r) → a.length ≤ inner n s f q.length ∧ ∀ o', r = some o' → o'.length = n := by
  intro f o q a r hl h
  induction hk : n - f using Nat.strongRecOn generalizing f o q with
  | _ k ih =>
    by_cases hc : f + s < n
    · obtain ⟨g, hg⟩ : ∃ g, mg M (seg o f (f + s)) (seg o (f + s) (min (f + 2 * s) n)) = g := ⟨_, rfl⟩
      obtain ⟨b, r'⟩ := g
      have hb := mg_asks M (seg o f (f + s)) (seg o (f + s) (min (f + 2 * s) n))
      rw [hg, seg_length (by omega), seg_length (by omega)] at hb
      simp only at hb
      have hb' : b.length ≤ min (f + 2 * s) n - f - 1 := by
        rcases hb with hb | hb
        · omega
        · simp [hb]
      rw [inner_yes hc h0]
      cases r' with
      | none =>
        rw [pass_bad hc h0 hg] at h
        cases h
        refine ⟨Nat.le_trans ?_ inner_ge, fun o' e => by cases e⟩
        simp; omega
      | some m =>
        rw [pass_yes hc h0 hg] at h
        have hl' := step_len hl (show f ≤ f + s by omega) (show f + s ≤ min (f + 2 * s) n by omega) (by omega) (mg_len hg)
        obtain ⟨h1, h2⟩ := ih (n - (f + 2 * s)) (by omega) hl' h rfl
        refine ⟨Nat.le_trans h1 (inner_mono ?_), h2⟩
        simp; omega
    · rw [pass_no hc] at h
      cases h
      rw [inner_no hc]
      exact ⟨Nat.le_refl _, fun o' e => by cases e; exact hl⟩

theorem all_asks (M : Nat → Nat → Int) {n : Nat} : ∀ {s : Nat} {o : List Nat} {q a r}, 0 < s → o.length = n → all M n s o q = (a, r) → a.length ≤ outer n s q.length ∧ ∀ o', r = some o' → o'.length = n := by
  intro s o q a r h0 hl h
  induction hk : n - s using Nat.strongRecOn generalizing s o q with
  | _ k ih =>
    by_cases hc : s < n
    · obtain ⟨g, hg⟩ : ∃ g, pass M n s 0 o q = g := ⟨_, rfl⟩
      obtain ⟨b, r'⟩ := g
      obtain ⟨h1, h2⟩ := pass_asks M h0 hl hg
      rw [outer_yes hc h0]
      cases r' with
      | none =>
        rw [all_bad hc h0 hg] at h
        cases h
        exact ⟨Nat.le_trans h1 outer_ge, fun o' e => by cases e⟩
      | some m =>
        rw [all_yes hc h0 hg] at h
        obtain ⟨h3, h4⟩ := ih (n - 2 * s) (by omega) (by omega) (h2 m rfl) h rfl
        exact ⟨Nat.le_trans h3 (outer_mono h1), h4⟩
    · rw [all_no hc] at h
      cases h
      rw [outer_no hc]
      exact ⟨Nat.le_refl _, fun o' e => by cases e; exact hl⟩

theorem sorted_asks {M : Nat → Nat → Int} {n : Nat} {a r} (h : sorted M n = (a, r)) : a.length ≤ outer n 1 0 ∧ ∀ o', r = some o' → o'.length = n := by
  have := all_asks M (s := 1) (by omega) (by simp) h
  simpa using this

/-! Items in order. -/

def up (a b : Nat) : Int := if a < b then 1 else 0

theorem mg_up : ∀ {xs ys : List Nat}, (∀ x ∈ xs, ∀ y ∈ ys, x < y) → ∃ a, mg up xs ys = (a, some (xs ++ ys)) ∧ (0 < ys.length → a.length = xs.length)
  | [], ys, _ => ⟨[], by rw [mg_left]; rfl, fun _ => rfl⟩
  | x :: xs, [], _ => ⟨[], by rw [mg_right]; simp, fun h => by simp at h⟩
  | x :: xs, y :: ys, h => by
    have hxy : x < y := h x (by simp) y (by simp)
    have e : up y x = 0 := by unfold up; rw [if_neg (by omega)]
    obtain ⟨a, ha, hl⟩ := mg_up (xs := xs) (ys := y :: ys) (fun x' hx' y' hy' => h x' (by simp [hx']) y' hy')
    refine ⟨(y, x) :: a, ?_, fun _ => by rw [List.length_cons, hl (by simp), List.length_cons]⟩
    rw [mg_zero _ _ (by omega) (by omega), ha]
    simp

theorem seg_join {o : List Nat} {f m e : Nat} (h1 : f ≤ m) (h2 : m ≤ e) : o.take f ++ (seg o f m ++ seg o m e) ++ o.drop e = o := by
  have e1 : seg o f m ++ seg o m e = seg o f e := by
    unfold seg
    have : e - f = (m - f) + (e - m) := by omega
    rw [this, List.take_add, List.drop_drop]
    congr 3
    omega
  rw [e1, seg]
  have e2 : o.drop e = (o.drop f).drop (e - f) := by rw [List.drop_drop]; congr 1; omega
  rw [e2, List.append_assoc, List.take_append_drop, List.take_append_drop]

theorem seg_range {n f e x : Nat} (h : x ∈ seg (List.range n) f e) : f ≤ x ∧ x < e := by
  unfold seg at h
  obtain ⟨i, hi⟩ := List.mem_iff_getElem?.1 h
  rw [List.getElem?_take] at hi
  split at hi
  · rw [List.getElem?_drop] at hi
    have hl := (List.getElem?_eq_some_iff.1 hi).1
    rw [List.getElem?_range (by simpa using hl)] at hi
    cases hi
    omega
  · cases hi

/-- The same counts by fuel, for the kernel. -/
def iU : Nat → Nat → Nat → Nat → Nat → Nat
  | 0, _, _, _, a => a
  | k + 1, n, s, f, a => if f + s < n then iU k n s (f + 2 * s) (a + s) else a
def oU : Nat → Nat → Nat → Nat → Nat
  | 0, _, _, a => a
  | k + 1, n, s, a => if s < n then oU k n (2 * s) (iU 64 n s 0 a) else a

theorem pass_up {n s : Nat} (h0 : 0 < s) : ∀ (k : Nat) {f : Nat} {q}, n ≤ f + 2 * s * k → ∃ q', pass up n s f (List.range n) q = (q', some (List.range n)) ∧ q'.length = iU k n s f q.length
  | 0, f, q, h => ⟨q, pass_no (by omega), rfl⟩
  | k + 1, f, q, h => by
    by_cases hc : f + s < n
    · obtain ⟨a, ha, hl⟩ := mg_up (xs := seg (List.range n) f (f + s)) (ys := seg (List.range n) (f + s) (min (f + 2 * s) n)) (fun x hx y hy => by have := seg_range hx; have := seg_range hy; omega)
      have l1 := seg_length (o := List.range n) (f := f) (e := f + s) (by simp; omega)
      have l2 := seg_length (o := List.range n) (f := f + s) (e := min (f + 2 * s) n) (by simp; omega)
      have hl' := hl (by rw [l2]; omega)
      rw [pass_yes hc h0 ha, seg_join (f := f) (m := f + s) (e := min (f + 2 * s) n) (by omega) (by omega)]
      obtain ⟨q', h1, h2⟩ := pass_up (n := n) h0 k (f := f + 2 * s) (q := q ++ a) (by have e : 2 * s * (k + 1) = 2 * s * k + 2 * s := Nat.mul_succ _ _; omega)
      refine ⟨q', h1, ?_⟩
      rw [h2, iU, if_pos hc, List.length_append, hl', l1, show f + s - f = s by omega]
    · exact ⟨q, pass_no hc, by rw [iU, if_neg hc]⟩

theorem all_up {n : Nat} (hn : n ≤ 100) : ∀ (k : Nat) {s : Nat} {q}, 0 < s → n ≤ s * 2 ^ k → ∃ q', all up n s (List.range n) q = (q', some (List.range n)) ∧ q'.length = oU k n s q.length
  | 0, s, q, _, h => ⟨q, all_no (by omega), rfl⟩
  | k + 1, s, q, h0, h => by
    by_cases hc : s < n
    · obtain ⟨q1, h1, h2⟩ := pass_up (n := n) h0 64 (f := 0) (q := q) (by omega)
      rw [all_yes hc h0 h1]
      obtain ⟨q2, h3, h4⟩ := all_up hn k (s := 2 * s) (q := q1) (by omega) (by rw [Nat.pow_succ] at h; rw [Nat.mul_comm 2 s, Nat.mul_assoc, Nat.mul_comm 2]; exact h)
      exact ⟨q2, h3, by rw [h4, h2, oU, if_pos hc]⟩
    · exact ⟨q, all_no hc, by rw [oU, if_neg hc]⟩

theorem oU_ge : ∀ n, n ≤ 60 → n ≤ oU 8 n 1 0 + 1 := by decide

theorem sorted_up {n : Nat} (hn : n ≤ 60) : ∃ q, sorted up n = (q, some (List.range n)) ∧ n ≤ q.length + 1 ∧ q.length ≤ outer n 1 0 := by
  obtain ⟨q, h1, h2⟩ := all_up (n := n) (by omega) 8 (s := 1) (q := []) (by omega) (by simp; omega)
  exact ⟨q, h1, by rw [h2]; exact oU_ge n hn, (sorted_asks h1).1⟩

end Go.Proofs.YtgflalfiopnmnaaDoor.So
