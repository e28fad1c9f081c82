import Derived.Test.YtgflalfiopnmnabGtPure
/-
  The order in which tables are met, and the graph that is numbered so. No Go in sight.
-/
namespace Go.Proofs.Ytgflalfiopnmnab
open Vl

/-- The tables that are met from v on, behind those of S. -/
def met (L : Nat → Nat) (X : Nat → Nat → V) : Nat → List Nat → V → List Nat
  | 0, S, _ => S
  | f + 1, S, v => if v.k = 4 ∧ v.a.toNat ∉ S then (List.range (L v.a.toNat)).foldl (fun T c => met L X f T (X v.a.toNat c)) (S ++ [v.a.toNat]) else S

/-- The first c values of a table, one after another. -/
def mets (L : Nat → Nat) (X : Nat → Nat → V) (f : Nat) (S : List Nat) (x : Nat → V) (c : Nat) : List Nat := (List.range c).foldl (fun T c => met L X f T (x c)) S
theorem mets_zero (L : Nat → Nat) (X : Nat → Nat → V) (f : Nat) (S : List Nat) (x : Nat → V) : mets L X f S x 0 = S := rfl
theorem mets_succ (L : Nat → Nat) (X : Nat → Nat → V) (f : Nat) (S : List Nat) (x : Nat → V) (c : Nat) : mets L X f S x (c + 1) = met L X f (mets L X f S x c) (x c) := by
  simp [mets, List.range_succ]
theorem met_new {L : Nat → Nat} {X : Nat → Nat → V} {f : Nat} {S : List Nat} {v : V} (h : v.k = 4) (hn : v.a.toNat ∉ S) : met L X (f + 1) S v = mets L X f (S ++ [v.a.toNat]) (X v.a.toNat) (L v.a.toNat) := by
  show (if v.k = 4 ∧ v.a.toNat ∉ S then _ else S) = _
  rw [if_pos ⟨h, hn⟩]
  rfl
theorem met_old {L : Nat → Nat} {X : Nat → Nat → V} {f : Nat} {S : List Nat} {v : V} (h : v.k ≠ 4 ∨ v.a.toNat ∈ S) : met L X f S v = S := by
  cases f with
  | zero => rfl
  | succ f =>
    show (if v.k = 4 ∧ v.a.toNat ∉ S then _ else S) = S
    rw [if_neg]
    rintro ⟨h1, h2⟩
    rcases h with h | h
    · exact h h1
    · exact h2 h

/-- S grows to T: nothing twice, no table that is not there. -/
structure Grows (n : Nat) (S T : List Nat) : Prop where
  pre : S <+: T
  nd : T.Nodup
  lt : ∀ r ∈ T, r < n
structure Fit (n : Nat) (S : List Nat) : Prop where
  nd : S.Nodup
  lt : ∀ r ∈ S, r < n
theorem Grows.fit {n : Nat} {S T : List Nat} (h : Grows n S T) : Fit n T := ⟨h.nd, h.lt⟩
theorem Fit.refl {n : Nat} {S : List Nat} (h : Fit n S) : Grows n S S := ⟨List.prefix_refl _, h.nd, h.lt⟩
theorem Fit.nil (n : Nat) : Fit n [] := ⟨List.nodup_nil, fun r h => by cases h⟩
theorem Grows.trans {n : Nat} {S T U : List Nat} (h : Grows n S T) (k : Grows n T U) : Grows n S U := ⟨h.pre.trans k.pre, k.nd, k.lt⟩
theorem Fit.add {n : Nat} {S : List Nat} (h : Fit n S) {r : Nat} (hr : r < n) (hn : r ∉ S) : Grows n S (S ++ [r]) :=
  ⟨List.prefix_append _ _, by
    rw [List.nodup_append]
    exact ⟨h.nd, by simp, fun a ha b hb => by simp at hb; subst hb; exact fun e => hn (e ▸ ha)⟩, fun q hq => by
    rcases List.mem_append.1 hq with h' | h'
    · exact h.lt q h'
    · simp at h'; omega⟩
theorem Grows.len {n : Nat} {S T : List Nat} (h : Grows n S T) : S.length ≤ T.length := h.pre.length_le
theorem Grows.mem {n : Nat} {S T : List Nat} (h : Grows n S T) {r : Nat} (hr : r ∈ S) : r ∈ T := h.pre.subset hr
theorem nodup_len : ∀ (S T : List Nat), S.Nodup → (∀ r ∈ S, r ∈ T) → S.length ≤ T.length
  | [], _, _, _ => Nat.zero_le _
  | a :: S, T, h, hs => by
    obtain ⟨h1, h2⟩ := List.nodup_cons.1 h
    have ha : a ∈ T := hs a (by simp)
    have := nodup_len S (T.erase a) h2 (fun r hr => (List.mem_erase_of_ne (show r ≠ a from fun e => h1 (e ▸ hr))).2 (hs r (by simp [hr])))
    rw [List.length_erase_of_mem ha] at this
    have := List.length_pos_of_mem ha
    simp only [List.length_cons]
    omega
theorem Fit.len {n : Nat} {S : List Nat} (h : Fit n S) : S.length ≤ n := by
  have : S.length ≤ (List.range n).length := nodup_len S _ h.nd (fun r hr => List.mem_range.2 (h.lt r hr))
  simpa using this
theorem Fit.less {n : Nat} {S : List Nat} (h : Fit n S) {r : Nat} (hr : r < n) (hn : r ∉ S) : S.length < n := by
  have := (h.add hr hn).fit.len
  simp at this
  omega

/-- Values that are met are of the graph. -/
def Good (n : Nat) (L : Nat → Nat) (X : Nat → Nat → V) : Prop := ∀ r, r < n → ∀ c, c < L r → isV n (X r c) = true
theorem good_of {n : Nat} {u : V} {L : Nat → Nat} {K X : Nat → Nat → V} (h : OkG n u L K X) : Good n L X := fun r hr c hc => ((h.all r hr).all c hc).val

/-- All of T that is not of S has been gone into. -/
def Closed (L : Nat → Nat) (X : Nat → Nat → V) (S T : List Nat) : Prop := ∀ r ∈ T, r ∉ S → ∀ c, c < L r → (X r c).k = 4 → (X r c).a.toNat ∈ T

theorem met_all {n : Nat} {L : Nat → Nat} {X : Nat → Nat → V} (hg : Good n L X) : ∀ (f : Nat) (S : List Nat) (v : V), Fit n S → isV n v = true → n - S.length < f →
    Grows n S (met L X f S v) ∧ Closed L X S (met L X f S v) ∧ (v.k = 4 → v.a.toNat ∈ met L X f S v) := by
  intro f
  induction f with
  | zero => intro S v _ _ h; omega
  | succ f ih =>
    intro S v hS hv hf
    by_cases h : v.k = 4 ∧ v.a.toNat ∉ S
    · obtain ⟨h4, hn⟩ := h
      rw [met_new h4 hn]
      obtain ⟨a0, a1⟩ := isV_tab hv h4
      have hr : v.a.toNat < n := by omega
      generalize v.a.toNat = r at *
      have hl := hS.less hr hn
      have h1 := hS.add hr hn
      have loop : ∀ c, c ≤ L r → Grows n (S ++ [r]) (mets L X f (S ++ [r]) (X r) c) ∧ Closed L X (S ++ [r]) (mets L X f (S ++ [r]) (X r) c) ∧ ∀ j, j < c → (X r j).k = 4 → (X r j).a.toNat ∈ mets L X f (S ++ [r]) (X r) c := by
        intro c
        induction c with
        | zero => intro _; exact ⟨h1.fit.refl, fun q hq hq' => absurd hq hq', fun j hj => by omega⟩
        | succ c ihc =>
          intro hc
          obtain ⟨g1, g2, g3⟩ := ihc (by omega)
          rw [mets_succ]
          have hlen := g1.len
          simp only [List.length_append, List.length_cons, List.length_nil] at hlen
          obtain ⟨k1, k2, k3⟩ := ih (mets L X f (S ++ [r]) (X r) c) (X r c) g1.fit (hg r hr c (by omega)) (by omega)
          refine ⟨g1.trans k1, fun q hq hq' i hi h4 => ?_, fun j hj h4 => ?_⟩
          · by_cases hm : q ∈ mets L X f (S ++ [r]) (X r) c
            · exact k1.mem (g2 q hm hq' i hi h4)
            · exact k2 q hq hm i hi h4
          · by_cases e : j = c
            · subst e; exact k3 h4
            · exact k1.mem (g3 j (by omega) h4)
      obtain ⟨g1, g2, g3⟩ := loop (L r) (Nat.le_refl _)
      refine ⟨h1.trans g1, fun q hq hq' i hi h4' => ?_, fun _ => g1.mem (by simp)⟩
      by_cases e : q = r
      · subst e; exact g3 i hi h4'
      · exact g2 q hq (by simp [hq', e]) i hi h4'
    · have : v.k ≠ 4 ∨ v.a.toNat ∈ S := by
        by_cases h4 : v.k = 4
        · exact Or.inr (Classical.byContradiction fun hn => h ⟨h4, hn⟩)
        · exact Or.inl h4
      rw [met_old this]
      refine ⟨hS.refl, fun q hq hq' => absurd hq hq', fun h4 => ?_⟩
      rcases this with h' | h'
      · exact absurd h4 h'
      · exact h'

/-- A value with its table's new number. -/
def renum (S : List Nat) (v : V) : V := if v.k = 4 then ⟨v.k, v.n, v.s, S.idxOf v.a.toNat⟩ else v

/-- Where a table is, -1 when it has not been met. -/
def whereIs (S : List Nat) (i : Nat) : Int := if i ∈ S then (S.idxOf i : Nat) else -1
theorem whereIs_in {S : List Nat} {i : Nat} (h : i ∈ S) : whereIs S i = (S.idxOf i : Nat) := by unfold whereIs; rw [if_pos h]
theorem whereIs_out {S : List Nat} {i : Nat} (h : i ∉ S) : whereIs S i = -1 := by unfold whereIs; rw [if_neg h]
theorem whereIs_add {S : List Nat} {r : Nat} (h : r ∉ S) (i : Nat) : whereIs (S ++ [r]) i = if i = r then (S.length : Int) else whereIs S i := by
  unfold whereIs
  by_cases e : i = r
  · subst e
    rw [if_pos (by simp), if_pos rfl, List.idxOf_append, if_neg h]
    simp
  · rw [if_neg e]
    by_cases hi : i ∈ S
    · rw [if_pos (by simp [hi]), if_pos hi, List.idxOf_append, if_pos hi]
    · rw [if_neg (by simp [hi, e]), if_neg hi]

/-- The tables of the canonical graph. -/
def order (n : Nat) (u : V) (L : Nat → Nat) (X : Nat → Nat → V) : List Nat := met L X (n + 1) [] u
theorem order_all {n : Nat} {u : V} {L : Nat → Nat} {K X : Nat → Nat → V} (h : OkG n u L K X) : Fit n (order n u L X) ∧ (∀ r ∈ order n u L X, ∀ c, c < L r → (X r c).k = 4 → (X r c).a.toNat ∈ order n u L X) ∧ (u.k = 4 → u.a.toNat ∈ order n u L X) := by
  obtain ⟨a, b, c⟩ := met_all (good_of h) (n + 1) [] u (Fit.nil n) h.root (by simp)
  exact ⟨a.fit, fun r hr => b r hr (by simp), c⟩

end Go.Proofs.Ytgflalfiopnmnab
