import Derived.Test.YtgflalfiopnmnabCnPure
/-
  Tables that are the same: the widest relation, and the least number of each. No Go in sight.
-/
namespace Go.Proofs.Ytgflalfiopnmnab
open Vl

theorem eqV_iff {a b : V} : eqV a b = true ↔ a = b := by
  obtain ⟨k, n, s, t⟩ := a
  obtain ⟨k', n', s', t'⟩ := b
  simp only [eqV, Bool.and_eq_true, beq_iff_eq, V.mk.injEq]
  constructor
  · rintro ⟨h1, h2, h3, h4⟩
    refine ⟨h1, h2, ?_, h4⟩
    rw [ByteArray.toList_eq, ByteArray.toList_eq] at h3
    obtain ⟨⟨l⟩⟩ := s
    obtain ⟨⟨l'⟩⟩ := s'
    simp at h3
    subst h3
    rfl
  · rintro ⟨h1, h2, h3, h4⟩
    exact ⟨h1, h2, by rw [h3], h4⟩

/-- Two values look alike when tables of one class do. -/
def alike (cl : Nat → Nat) (a b : V) : Bool := a.k == b.k && (if a.k = 4 then cl a.a.toNat == cl b.a.toNat else eqV a b)
theorem alike_iff {cl : Nat → Nat} {a b : V} : alike cl a b = true ↔ a.k = b.k ∧ (a.k = 4 → cl a.a.toNat = cl b.a.toNat) ∧ (a.k ≠ 4 → a = b) := by
  unfold alike
  by_cases h : a.k = 4
  · simp [h]
  · simp [h, eqV_iff]
theorem alike_refl (cl : Nat → Nat) (a : V) : alike cl a a = true := alike_iff.2 ⟨rfl, fun _ => rfl, fun _ => rfl⟩
theorem alike_symm {cl : Nat → Nat} {a b : V} (h : alike cl a b = true) : alike cl b a = true := by
  rw [alike_iff] at h ⊢
  exact ⟨h.1.symm, fun e => (h.2.1 (by omega)).symm, fun e => (h.2.2 (by omega)).symm⟩
theorem alike_trans {cl : Nat → Nat} {a b c : V} (h : alike cl a b = true) (k : alike cl b c = true) : alike cl a c = true := by
  rw [alike_iff] at h k ⊢
  exact ⟨h.1.trans k.1, fun e => (h.2.1 e).trans (k.2.1 (by omega)), fun e => (h.2.2 e).trans (k.2.2 (by omega))⟩

/-- Two tables look alike. -/
structure Looks (L : Nat → Nat) (K X : Nat → Nat → V) (cl : Nat → Nat) (i j : Nat) : Prop where
  len : L i = L j
  all : ∀ c, c < L i → K i c = K j c ∧ alike cl (X i c) (X j c) = true
theorem Looks.refl (L : Nat → Nat) (K X : Nat → Nat → V) (cl : Nat → Nat) (i : Nat) : Looks L K X cl i i := ⟨rfl, fun _ _ => ⟨rfl, alike_refl _ _⟩⟩
theorem Looks.symm {L : Nat → Nat} {K X : Nat → Nat → V} {cl : Nat → Nat} {i j : Nat} (h : Looks L K X cl i j) : Looks L K X cl j i := ⟨h.len.symm, fun c hc => by
  have := h.all c (by rw [h.len]; exact hc)
  exact ⟨this.1.symm, alike_symm this.2⟩⟩
theorem Looks.trans {L : Nat → Nat} {K X : Nat → Nat → V} {cl : Nat → Nat} {i j k : Nat} (h : Looks L K X cl i j) (g : Looks L K X cl j k) : Looks L K X cl i k := ⟨h.len.trans g.len, fun c hc => by
  have h1 := h.all c hc
  have h2 := g.all c (by rw [← h.len]; exact hc)
  exact ⟨h1.1.trans h2.1, alike_trans h1.2 h2.2⟩⟩
theorem Looks.congr {L : Nat → Nat} {K X : Nat → Nat → V} {cl cl' : Nat → Nat} {n i j : Nat} (hg : Good n L X) (hi : i < n) (hj : j < n) (he : ∀ r, r < n → cl r = cl' r) (h : Looks L K X cl i j) : Looks L K X cl' i j := ⟨h.len, fun c hc => by
  obtain ⟨h1, h2⟩ := h.all c hc
  refine ⟨h1, ?_⟩
  rw [alike_iff] at h2 ⊢
  refine ⟨h2.1, fun e => ?_, h2.2.2⟩
  have a1 := isV_tab (hg i hi c hc) e
  have a2 := isV_tab (hg j hj c (by rw [← h.len]; exact hc)) (by omega)
  rw [← he _ (by omega), ← he _ (by omega)]
  exact h2.2.1 e⟩

/-- A relation that goes with what tables hold. -/
def Bis (n : Nat) (L : Nat → Nat) (K X : Nat → Nat → V) (R : Nat → Nat → Prop) : Prop := ∀ i j, R i j → i < n ∧ j < n ∧ L i = L j ∧ ∀ c, c < L i → K i c = K j c ∧ (X i c).k = (X j c).k ∧ ((X i c).k = 4 → R (X i c).a.toNat (X j c).a.toNat) ∧ ((X i c).k ≠ 4 → X i c = X j c)

/-- Classes that no relation is wider than, each told by its least table. -/
structure IsCls (n : Nat) (L : Nat → Nat) (K X : Nat → Nat → V) (f : Nat → Nat) : Prop where
  low : ∀ i, i < n → f i ≤ i
  idem : ∀ i, i < n → f (f i) = f i
  bis : ∀ i j, i < n → j < n → f i = f j → Looks L K X f i j
  wide : ∀ R, Bis n L K X R → ∀ i j, R i j → f i = f j

theorem IsCls.rel {n : Nat} {L : Nat → Nat} {K X : Nat → Nat → V} {f : Nat → Nat} (hg : Good n L X) (h : IsCls n L K X f) : Bis n L K X (fun i j => i < n ∧ j < n ∧ f i = f j) := by
  rintro i j ⟨hi, hj, e⟩
  have hl := h.bis i j hi hj e
  refine ⟨hi, hj, hl.len, fun c hc => ?_⟩
  obtain ⟨h1, h2⟩ := hl.all c hc
  rw [alike_iff] at h2
  refine ⟨h1, h2.1, fun e4 => ?_, h2.2.2⟩
  have a1 := isV_tab (hg i hi c hc) e4
  have a2 := isV_tab (hg j hj c (by rw [← hl.len]; exact hc)) (by omega)
  exact ⟨by omega, by omega, h2.2.1 e4⟩

theorem IsCls.le {n : Nat} {L : Nat → Nat} {K X : Nat → Nat → V} {f g : Nat → Nat} (hg : Good n L X) (hf : IsCls n L K X f) (h : IsCls n L K X g) {i : Nat} (hi : i < n) : g i ≤ f i := by
  have h1 := hf.low i hi
  have h2 : g (f i) = g i := h.wide _ (hf.rel hg) (f i) i ⟨by omega, hi, hf.idem i hi⟩
  have h3 := h.low (f i) (by omega)
  omega
theorem IsCls.uniq {n : Nat} {L : Nat → Nat} {K X : Nat → Nat → V} {f g : Nat → Nat} (hg : Good n L X) (hf : IsCls n L K X f) (h : IsCls n L K X g) {i : Nat} (hi : i < n) : f i = g i :=
  Nat.le_antisymm (h.le hg hf hi) (hf.le hg h hi)

/-- What holds of classes on the way. -/
structure OnWay (n : Nat) (L : Nat → Nat) (K X : Nat → Nat → V) (cl : Nat → Nat) : Prop where
  low : ∀ i, i < n → cl i ≤ i
  idem : ∀ i, i < n → cl (cl i) = cl i
  wide : ∀ R, Bis n L K X R → ∀ i j, R i j → cl i = cl j

theorem OnWay.congr {n : Nat} {L : Nat → Nat} {K X : Nat → Nat → V} {cl cl' : Nat → Nat} (h : OnWay n L K X cl) (he : ∀ i, i < n → cl i = cl' i) : OnWay n L K X cl' :=
  ⟨fun i hi => by rw [← he i hi]; exact h.low i hi, fun i hi => by have := h.low i hi; rw [← he i hi, ← he _ (by omega)]; exact h.idem i hi,
   fun R hR i j hr => by obtain ⟨h1, h2, _⟩ := hR i j hr; rw [← he i h1, ← he j h2]; exact h.wide R hR i j hr⟩
theorem IsCls.congr {n : Nat} {L : Nat → Nat} {K X : Nat → Nat → V} {cl cl' : Nat → Nat} (hg : Good n L X) (h : IsCls n L K X cl) (he : ∀ i, i < n → cl i = cl' i) : IsCls n L K X cl' := by
  have o := OnWay.congr ⟨h.low, h.idem, h.wide⟩ he
  exact ⟨o.low, o.idem, fun i j hi hj e => (h.bis i j hi hj (by rw [he i hi, he j hj]; exact e)).congr hg hi hj he, o.wide⟩

/-- One round: the least that was alike and looks alike. -/
structure Round (n : Nat) (L : Nat → Nat) (K X : Nat → Nat → V) (cl nx : Nat → Nat) : Prop where
  low : ∀ i, i < n → nx i ≤ i
  hit : ∀ i, i < n → cl (nx i) = cl i ∧ Looks L K X cl (nx i) i
  least : ∀ i, i < n → ∀ k, k < nx i → ¬ (cl k = cl i ∧ Looks L K X cl k i)

theorem Round.eq {n : Nat} {L : Nat → Nat} {K X : Nat → Nat → V} {cl nx : Nat → Nat} (h : Round n L K X cl nx) {i j : Nat} (hi : i < n) (hj : j < n) : nx i = nx j ↔ cl i = cl j ∧ Looks L K X cl i j := by
  obtain ⟨a1, a2⟩ := h.hit i hi
  obtain ⟨b1, b2⟩ := h.hit j hj
  constructor
  · intro e
    rw [e] at a1 a2
    exact ⟨a1.symm.trans b1, a2.symm.trans b2⟩
  · rintro ⟨e, hl⟩
    rcases Nat.lt_trichotomy (nx i) (nx j) with h' | h' | h'
    · exact absurd ⟨a1.trans e, a2.trans hl⟩ (h.least j hj _ h')
    · exact h'
    · exact absurd ⟨b1.trans e.symm, b2.trans hl.symm⟩ (h.least i hi _ h')
theorem Round.idem {n : Nat} {L : Nat → Nat} {K X : Nat → Nat → V} {cl nx : Nat → Nat} (h : Round n L K X cl nx) {i : Nat} (hi : i < n) : nx (nx i) = nx i := by
  have := h.low i hi
  exact (h.eq (by omega) hi).2 (h.hit i hi)

theorem Round.next {n : Nat} {L : Nat → Nat} {K X : Nat → Nat → V} {cl nx : Nat → Nat} (h : Round n L K X cl nx) (ho : OnWay n L K X cl) : OnWay n L K X nx := by
  refine ⟨h.low, fun i hi => h.idem hi, fun R hR i j hr => ?_⟩
  obtain ⟨h1, h2, h3, h4⟩ := hR i j hr
  refine (h.eq h1 h2).2 ⟨ho.wide R hR i j hr, h3, fun c hc => ?_⟩
  obtain ⟨k1, k2, k3, k4⟩ := h4 c hc
  exact ⟨k1, alike_iff.2 ⟨k2, fun e => ho.wide R hR _ _ (k3 e), k4⟩⟩

/-- Nothing has turned: these are the classes. -/
theorem Round.done {n : Nat} {L : Nat → Nat} {K X : Nat → Nat → V} {cl nx : Nat → Nat} (h : Round n L K X cl nx) (ho : OnWay n L K X cl) (he : ∀ i, i < n → nx i = cl i) : IsCls n L K X cl :=
  ⟨ho.low, ho.idem, fun i j hi hj e => ((h.eq hi hj).1 (by rw [he i hi, he j hj]; exact e)).2, ho.wide⟩

/-- How many tables tell a class. -/
def reps (n : Nat) (cl : Nat → Nat) : Nat := ((List.range n).filter fun i => cl i == i).length
theorem reps_le (n : Nat) (cl : Nat → Nat) : reps n cl ≤ n := by
  have := List.length_filter_le (fun i => cl i == i) (List.range n)
  simpa [reps] using this
theorem reps_mono (cl nx : Nat → Nat) : ∀ n, (∀ i, i < n → cl i = i → nx i = i) → reps n cl ≤ reps n nx ∧ ∀ i, i < n → cl i ≠ i → nx i = i → reps n cl < reps n nx
  | 0, _ => ⟨Nat.le_refl _, fun i hi => by omega⟩
  | n + 1, h => by
    obtain ⟨h1, h2⟩ := reps_mono cl nx n (fun i hi => h i (by omega))
    have e : ∀ f : Nat → Nat, reps (n + 1) f = reps n f + if f n = n then 1 else 0 := fun f => by
      unfold reps
      rw [List.range_succ, List.filter_append, List.length_append]
      by_cases hf : f n = n <;> simp [hf]
    rw [e, e]
    have hn := h n (by omega)
    refine ⟨?_, fun i hi k1 k2 => ?_⟩
    · by_cases hc : cl n = n
      · rw [if_pos hc, if_pos (hn hc)]; omega
      · rw [if_neg hc]; omega
    · by_cases ei : i = n
      · subst ei
        rw [if_neg k1, if_pos k2]
        omega
      · have := h2 i (by omega) k1 k2
        by_cases hc : cl n = n
        · rw [if_pos hc, if_pos (hn hc)]; omega
        · rw [if_neg hc]; omega

theorem Round.more {n : Nat} {L : Nat → Nat} {K X : Nat → Nat → V} {cl nx : Nat → Nat} (h : Round n L K X cl nx) (ho : OnWay n L K X cl) {i : Nat} (hi : i < n) (hne : nx i ≠ cl i) : reps n cl < reps n nx := by
  have keep : ∀ i, i < n → cl i = i → nx i = i := fun i hi e => by
    have h1 := h.low i hi
    have h2 := (h.hit i hi).1
    have h3 := ho.low (nx i) (by omega)
    omega
  have h1 := h.low i hi
  refine (reps_mono cl nx n keep).2 (nx i) (by omega) (fun e => hne ?_) (h.idem hi)
  have := (h.hit i hi).1
  omega

end Go.Proofs.Ytgflalfiopnmnab
