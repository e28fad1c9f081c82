import Derived.Test.YtgflalfiopnmnaaGreatDoorM2
import Derived.Test.YtgflalfiopnmnaaGreatDoorM1
import Derived.Test.YtgflalfiopnmnaaGreatDoorOnlyB
import Derived.LaidEql
namespace Go.Proofs.YtgflalfiopnmnaaGreatDoor
open Vl

def met (L : Nat → Nat) (X : Nat → Nat → V) : Nat → List Nat → V → List Nat
  | 0, S, _ => S
  | f + 1, S, v => if v.k = 4 ∧ v.a.toNat ∉ S then (List.range (L v.a.toNat)).foldl (fun T c => met L X f T (X v.a.toNat c)) (S ++ [v.a.toNat]) else S

def mets (L : Nat → Nat) (X : Nat → Nat → V) (f : Nat) (S : List Nat) (x : Nat → V) (c : Nat) : List Nat := (List.range c).foldl (fun T c => met L X f T (x c)) S
theorem mets_zero (L : Nat → Nat) (X : Nat → Nat → V) (f : Nat) (S : List Nat) (x : Nat → V) : mets L X f S x 0 = S := rfl
theorem mets_succ (L : Nat → Nat) (X : Nat → Nat → V) (f : Nat) (S : List Nat) (x : Nat → V) (c : Nat) : mets L X f S x (c + 1) = met L X f (mets L X f S x c) (x c) := by
  simp [mets, List.range_succ]
theorem met_new {L : Nat → Nat} {X : Nat → Nat → V} {f : Nat} {S : List Nat} {v : V} (h : v.k = 4) (hn : v.a.toNat ∉ S) : met L X (f + 1) S v = mets L X f (S ++ [v.a.toNat]) (X v.a.toNat) (L v.a.toNat) := by
  show (if v.k = 4 ∧ v.a.toNat ∉ S then _ else S) = _
  rw [if_pos ⟨h, hn⟩]
  rfl
theorem met_old {L : Nat → Nat} {X : Nat → Nat → V} {f : Nat} {S : List Nat} {v : V} (h : v.k ≠ 4 ∨ v.a.toNat ∈ S) : met L X f S v = S := by
  cases f with
  | zero => rfl
  | succ f =>
    show (if v.k = 4 ∧ v.a.toNat ∉ S then _ else S) = S
    rw [if_neg]
    rintro ⟨h1, h2⟩
    rcases h with h | h
    · exact h h1
    · exact h2 h

structure Grows (n : Nat) (S T : List Nat) : Prop where
  pre : S <+: T
  nd : T.Nodup
  lt : ∀ r ∈ T, r < n
structure Fit (n : Nat) (S : List Nat) : Prop where
  nd : S.Nodup
  lt : ∀ r ∈ S, r < n
theorem Grows.fit {n : Nat} {S T : List Nat} (h : Grows n S T) : Fit n T := ⟨h.nd, h.lt⟩
theorem Fit.refl {n : Nat} {S : List Nat} (h : Fit n S) : Grows n S S := ⟨List.prefix_refl _, h.nd, h.lt⟩
theorem Fit.nil (n : Nat) : Fit n [] := ⟨List.nodup_nil, fun r h => by cases h⟩
theorem Grows.trans {n : Nat} {S T U : List Nat} (h : Grows n S T) (k : Grows n T U) : Grows n S U := ⟨h.pre.trans k.pre, k.nd, k.lt⟩
theorem Fit.add {n : Nat} {S : List Nat} (h : Fit n S) {r : Nat} (hr : r < n) (hn : r ∉ S) : Grows n S (S ++ [r]) :=
  ⟨List.prefix_append _ _, by
    rw [List.nodup_append]
    exact ⟨h.nd, by simp, fun a ha b hb => by simp at hb; subst hb; exact fun e => hn (e ▸ ha)⟩, fun q hq => by
    rcases List.mem_append.1 hq with h' | h'
    · exact h.lt q h'
    · simp at h'; omega⟩
theorem Grows.len {n : Nat} {S T : List Nat} (h : Grows n S T) : S.length ≤ T.length := h.pre.length_le
theorem Grows.mem {n : Nat} {S T : List Nat} (h : Grows n S T) {r : Nat} (hr : r ∈ S) : r ∈ T := h.pre.subset hr
theorem nodup_len : ∀ (S T : List Nat), S.Nodup → (∀ r ∈ S, r ∈ T) → S.length ≤ T.length
  | [], _, _, _ => Nat.zero_le _
  | a :: S, T, h, hs => by
    obtain ⟨h1, h2⟩ := List.nodup_cons.1 h
    have ha : a ∈ T := hs a (by simp)
    have := nodup_len S (T.erase a) h2 (fun r hr => (List.mem_erase_of_ne (show r ≠ a from fun e => h1 (e ▸ hr))).2 (hs r (by simp [hr])))
    rw [List.length_erase_of_mem ha] at this
    have := List.length_pos_of_mem ha
    simp only [List.length_cons]
    omega
theorem Fit.len {n : Nat} {S : List Nat} (h : Fit n S) : S.length ≤ n := by
  have : S.length ≤ (List.range n).length := nodup_len S _ h.nd (fun r hr => List.mem_range.2 (h.lt r hr))
  simpa using this
theorem Fit.less {n : Nat} {S : List Nat} (h : Fit n S) {r : Nat} (hr : r < n) (hn : r ∉ S) : S.length < n := by
  have := (h.add hr hn).fit.len
  simp at this
  omega

def Good (n : Nat) (L : Nat → Nat) (X : Nat → Nat → V) : Prop := ∀ r, r < n → ∀ c, c < L r → isV n (X r c) = true
theorem good_of {n : Nat} {u : V} {L : Nat → Nat} {K X : Nat → Nat → V} (h : OkG n u L K X) : Good n L X := fun r hr c hc => ((h.all r hr).all c hc).val

def Closed (L : Nat → Nat) (X : Nat → Nat → V) (S T : List Nat) : Prop := ∀ r ∈ T, r ∉ S → ∀ c, c < L r → (X r c).k = 4 → (X r c).a.toNat ∈ T

theorem met_all {n : Nat} {L : Nat → Nat} {X : Nat → Nat → V} (hg : Good n L X) : ∀ (f : Nat) (S : List Nat) (v : V), Fit n S → isV n v = true → n - S.length < f →
    Grows n S (met L X f S v) ∧ Closed L X S (met L X f S v) ∧ (v.k = 4 → v.a.toNat ∈ met L X f S v) := by
  intro f
  induction f with
  | zero => intro S v _ _ h; omega
  | succ f ih =>
    intro S v hS hv hf
    by_cases h : v.k = 4 ∧ v.a.toNat ∉ S
    · obtain ⟨h4, hn⟩ := h
      rw [met_new h4 hn]
      obtain ⟨a0, a1⟩ := isV_tab hv h4
      have hr : v.a.toNat < n := by omega
      generalize v.a.toNat = r at *
      have hl := hS.less hr hn
      have h1 := hS.add hr hn
      have loop : ∀ c, c ≤ L r → Grows n (S ++ [r]) (mets L X f (S ++ [r]) (X r) c) ∧ Closed L X (S ++ [r]) (mets L X f (S ++ [r]) (X r) c) ∧ ∀ j, j < c → (X r j).k = 4 → (X r j).a.toNat ∈ mets L X f (S ++ [r]) (X r) c := by
        intro c
        induction c with
        | zero => intro _; exact ⟨h1.fit.refl, fun q hq hq' => absurd hq hq', fun j hj => by omega⟩
        | succ c ihc =>
          intro hc
          obtain ⟨g1, g2, g3⟩ := ihc (by omega)
          rw [mets_succ]
          have hlen := g1.len
          simp only [List.length_append, List.length_cons, List.length_nil] at hlen
          obtain ⟨k1, k2, k3⟩ := ih (mets L X f (S ++ [r]) (X r) c) (X r c) g1.fit (hg r hr c (by omega)) (by omega)
          refine ⟨g1.trans k1, fun q hq hq' i hi h4 => ?_, fun j hj h4 => ?_⟩
          · by_cases hm : q ∈ mets L X f (S ++ [r]) (X r) c
            · exact k1.mem (g2 q hm hq' i hi h4)
            · exact k2 q hq hm i hi h4
          · by_cases e : j = c
            · subst e; exact k3 h4
            · exact k1.mem (g3 j (by omega) h4)
      obtain ⟨g1, g2, g3⟩ := loop (L r) (Nat.le_refl _)
      refine ⟨h1.trans g1, fun q hq hq' i hi h4' => ?_, fun _ => g1.mem (by simp)⟩
      by_cases e : q = r
      · subst e; exact g3 i hi h4'
      · exact g2 q hq (by simp [hq', e]) i hi h4'
    · have : v.k ≠ 4 ∨ v.a.toNat ∈ S := by
        by_cases h4 : v.k = 4
        · exact Or.inr (Classical.byContradiction fun hn => h ⟨h4, hn⟩)
        · exact Or.inl h4
      rw [met_old this]
      refine ⟨hS.refl, fun q hq hq' => absurd hq hq', fun h4 => ?_⟩
      rcases this with h' | h'
      · exact absurd h4 h'
      · exact h'

def renum (S : List Nat) (v : V) : V := if v.k = 4 then ⟨v.k, v.n, v.s, S.idxOf v.a.toNat⟩ else v

def order (n : Nat) (u : V) (L : Nat → Nat) (X : Nat → Nat → V) : List Nat := met L X (n + 1) [] u
theorem order_all {n : Nat} {u : V} {L : Nat → Nat} {K X : Nat → Nat → V} (h : OkG n u L K X) : Fit n (order n u L X) ∧ (∀ r ∈ order n u L X, ∀ c, c < L r → (X r c).k = 4 → (X r c).a.toNat ∈ order n u L X) ∧ (u.k = 4 → u.a.toNat ∈ order n u L X) := by
  obtain ⟨a, b, c⟩ := met_all (good_of h) (n + 1) [] u (Fit.nil n) h.root (by simp)
  exact ⟨a.fit, fun r hr => b r hr (by simp), c⟩

end Go.Proofs.YtgflalfiopnmnaaGreatDoor

namespace Go.Proofs.YtgflalfiopnmnaaGreatDoor
open Vl

theorem eqV_iff {a b : V} : eqV a b = true ↔ a = b := by
  obtain ⟨k, n, s, t⟩ := a
  obtain ⟨k', n', s', t'⟩ := b
  simp only [eqV, Bool.and_eq_true, beq_iff_eq, V.mk.injEq]
  constructor
  · rintro ⟨h1, h2, h3, h4⟩
    refine ⟨h1, h2, ?_, h4⟩
    rw [ByteArray.toList_eq, ByteArray.toList_eq] at h3
    obtain ⟨⟨l⟩⟩ := s
    obtain ⟨⟨l'⟩⟩ := s'
    simp at h3
    subst h3
    rfl
  · rintro ⟨h1, h2, h3, h4⟩
    exact ⟨h1, h2, by rw [h3], h4⟩

def alike (cl : Nat → Nat) (a b : V) : Bool := a.k == b.k && (if a.k = 4 then cl a.a.toNat == cl b.a.toNat else eqV a b)
theorem alike_iff {cl : Nat → Nat} {a b : V} : alike cl a b = true ↔ a.k = b.k ∧ (a.k = 4 → cl a.a.toNat = cl b.a.toNat) ∧ (a.k ≠ 4 → a = b) := by
  unfold alike
  by_cases h : a.k = 4
  · simp [h]
  · simp [h, eqV_iff]
theorem alike_refl (cl : Nat → Nat) (a : V) : alike cl a a = true := alike_iff.2 ⟨rfl, fun _ => rfl, fun _ => rfl⟩
theorem alike_symm {cl : Nat → Nat} {a b : V} (h : alike cl a b = true) : alike cl b a = true := by
  rw [alike_iff] at h ⊢
  exact ⟨h.1.symm, fun e => (h.2.1 (by omega)).symm, fun e => (h.2.2 (by omega)).symm⟩
theorem alike_trans {cl : Nat → Nat} {a b c : V} (h : alike cl a b = true) (k : alike cl b c = true) : alike cl a c = true := by
  rw [alike_iff] at h k ⊢
  exact ⟨h.1.trans k.1, fun e => (h.2.1 e).trans (k.2.1 (by omega)), fun e => (h.2.2 e).trans (k.2.2 (by omega))⟩

structure Looks (L : Nat → Nat) (K X : Nat → Nat → V) (cl : Nat → Nat) (i j : Nat) : Prop where
  len : L i = L j
  all : ∀ c, c < L i → K i c = K j c ∧ alike cl (X i c) (X j c) = true
theorem Looks.refl (L : Nat → Nat) (K X : Nat → Nat → V) (cl : Nat → Nat) (i : Nat) : Looks L K X cl i i := ⟨rfl, fun _ _ => ⟨rfl, alike_refl _ _⟩⟩
theorem Looks.symm {L : Nat → Nat} {K X : Nat → Nat → V} {cl : Nat → Nat} {i j : Nat} (h : Looks L K X cl i j) : Looks L K X cl j i := ⟨h.len.symm, fun c hc => by
  have := h.all c (by rw [h.len]; exact hc)
  exact ⟨this.1.symm, alike_symm this.2⟩⟩
theorem Looks.trans {L : Nat → Nat} {K X : Nat → Nat → V} {cl : Nat → Nat} {i j k : Nat} (h : Looks L K X cl i j) (g : Looks L K X cl j k) : Looks L K X cl i k := ⟨h.len.trans g.len, fun c hc => by
  have h1 := h.all c hc
  have h2 := g.all c (by rw [← h.len]; exact hc)
  exact ⟨h1.1.trans h2.1, alike_trans h1.2 h2.2⟩⟩
theorem Looks.congr {L : Nat → Nat} {K X : Nat → Nat → V} {cl cl' : Nat → Nat} {n i j : Nat} (hg : Good n L X) (hi : i < n) (hj : j < n) (he : ∀ r, r < n → cl r = cl' r) (h : Looks L K X cl i j) : Looks L K X cl' i j := ⟨h.len, fun c hc => by
  obtain ⟨h1, h2⟩ := h.all c hc
  refine ⟨h1, ?_⟩
  rw [alike_iff] at h2 ⊢
  refine ⟨h2.1, fun e => ?_, h2.2.2⟩
  have a1 := isV_tab (hg i hi c hc) e
  have a2 := isV_tab (hg j hj c (by rw [← h.len]; exact hc)) (by omega)
  rw [← he _ (by omega), ← he _ (by omega)]
  exact h2.2.1 e⟩

def Bis (n : Nat) (L : Nat → Nat) (K X : Nat → Nat → V) (R : Nat → Nat → Prop) : Prop := ∀ i j, R i j → i < n ∧ j < n ∧ L i = L j ∧ ∀ c, c < L i → K i c = K j c ∧ (X i c).k = (X j c).k ∧ ((X i c).k = 4 → R (X i c).a.toNat (X j c).a.toNat) ∧ ((X i c).k ≠ 4 → X i c = X j c)

structure IsCls (n : Nat) (L : Nat → Nat) (K X : Nat → Nat → V) (f : Nat → Nat) : Prop where
  low : ∀ i, i < n → f i ≤ i
  idem : ∀ i, i < n → f (f i) = f i
  bis : ∀ i j, i < n → j < n → f i = f j → Looks L K X f i j
  wide : ∀ R, Bis n L K X R → ∀ i j, R i j → f i = f j

structure OnWay (n : Nat) (L : Nat → Nat) (K X : Nat → Nat → V) (cl : Nat → Nat) : Prop where
  low : ∀ i, i < n → cl i ≤ i
  idem : ∀ i, i < n → cl (cl i) = cl i
  wide : ∀ R, Bis n L K X R → ∀ i j, R i j → cl i = cl j

theorem OnWay.congr {n : Nat} {L : Nat → Nat} {K X : Nat → Nat → V} {cl cl' : Nat → Nat} (h : OnWay n L K X cl) (he : ∀ i, i < n → cl i = cl' i) : OnWay n L K X cl' :=
  ⟨fun i hi => by rw [← he i hi]; exact h.low i hi, fun i hi => by have := h.low i hi; rw [← he i hi, ← he _ (by omega)]; exact h.idem i hi,
   fun R hR i j hr => by obtain ⟨h1, h2, _⟩ := hR i j hr; rw [← he i h1, ← he j h2]; exact h.wide R hR i j hr⟩
theorem IsCls.congr {n : Nat} {L : Nat → Nat} {K X : Nat → Nat → V} {cl cl' : Nat → Nat} (hg : Good n L X) (h : IsCls n L K X cl) (he : ∀ i, i < n → cl i = cl' i) : IsCls n L K X cl' := by
  have o := OnWay.congr ⟨h.low, h.idem, h.wide⟩ he
  exact ⟨o.low, o.idem, fun i j hi hj e => (h.bis i j hi hj (by rw [he i hi, he j hj]; exact e)).congr hg hi hj he, o.wide⟩

structure Round (n : Nat) (L : Nat → Nat) (K X : Nat → Nat → V) (cl nx : Nat → Nat) : Prop where
  low : ∀ i, i < n → nx i ≤ i
  hit : ∀ i, i < n → cl (nx i) = cl i ∧ Looks L K X cl (nx i) i
  least : ∀ i, i < n → ∀ k, k < nx i → ¬ (cl k = cl i ∧ Looks L K X cl k i)

theorem Round.eq {n : Nat} {L : Nat → Nat} {K X : Nat → Nat → V} {cl nx : Nat → Nat} (h : Round n L K X cl nx) {i j : Nat} (hi : i < n) (hj : j < n) : nx i = nx j ↔ cl i = cl j ∧ Looks L K X cl i j := by
  obtain ⟨a1, a2⟩ := h.hit i hi
  obtain ⟨b1, b2⟩ := h.hit j hj
  constructor
  · intro e
    rw [e] at a1 a2
    exact ⟨a1.symm.trans b1, a2.symm.trans b2⟩
  · rintro ⟨e, hl⟩
    rcases Nat.lt_trichotomy (nx i) (nx j) with h' | h' | h'
    · exact absurd ⟨a1.trans e, a2.trans hl⟩ (h.least j hj _ h')
    · exact h'
    · exact absurd ⟨b1.trans e.symm, b2.trans hl.symm⟩ (h.least i hi _ h')
theorem Round.idem {n : Nat} {L : Nat → Nat} {K X : Nat → Nat → V} {cl nx : Nat → Nat} (h : Round n L K X cl nx) {i : Nat} (hi : i < n) : nx (nx i) = nx i := by
  have := h.low i hi
  exact (h.eq (by omega) hi).2 (h.hit i hi)

theorem Round.next {n : Nat} {L : Nat → Nat} {K X : Nat → Nat → V} {cl nx : Nat → Nat} (h : Round n L K X cl nx) (ho : OnWay n L K X cl) : OnWay n L K X nx := by
  refine ⟨h.low, fun i hi => h.idem hi, fun R hR i j hr => ?_⟩
  obtain ⟨h1, h2, h3, h4⟩ := hR i j hr
  refine (h.eq h1 h2).2 ⟨ho.wide R hR i j hr, h3, fun c hc => ?_⟩
  obtain ⟨k1, k2, k3, k4⟩ := h4 c hc
  exact ⟨k1, alike_iff.2 ⟨k2, fun e => ho.wide R hR _ _ (k3 e), k4⟩⟩

theorem Round.done {n : Nat} {L : Nat → Nat} {K X : Nat → Nat → V} {cl nx : Nat → Nat} (h : Round n L K X cl nx) (ho : OnWay n L K X cl) (he : ∀ i, i < n → nx i = cl i) : IsCls n L K X cl :=
  ⟨ho.low, ho.idem, fun i j hi hj e => ((h.eq hi hj).1 (by rw [he i hi, he j hj]; exact e)).2, ho.wide⟩

def reps (n : Nat) (cl : Nat → Nat) : Nat := ((List.range n).filter fun i => cl i == i).length
theorem reps_le (n : Nat) (cl : Nat → Nat) : reps n cl ≤ n := by
  have := List.length_filter_le (fun i => cl i == i) (List.range n)
  simpa [reps] using this
theorem reps_mono (cl nx : Nat → Nat) : ∀ n, (∀ i, i < n → cl i = i → nx i = i) → reps n cl ≤ reps n nx ∧ ∀ i, i < n → cl i ≠ i → nx i = i → reps n cl < reps n nx
  | 0, _ => ⟨Nat.le_refl _, fun i hi => by omega⟩
  | n + 1, h => by
    obtain ⟨h1, h2⟩ := reps_mono cl nx n (fun i hi => h i (by omega))
    have e : ∀ f : Nat → Nat, reps (n + 1) f = reps n f + if f n = n then 1 else 0 := fun f => by
      unfold reps
      rw [List.range_succ, List.filter_append, List.length_append]
      by_cases hf : f n = n <;> simp [hf]
    rw [e, e]
    have hn := h n (by omega)
    refine ⟨?_, fun i hi k1 k2 => ?_⟩
    · by_cases hc : cl n = n
      · rw [if_pos hc, if_pos (hn hc)]; omega
      · rw [if_neg hc]; omega
    · by_cases ei : i = n
      · subst ei
        rw [if_neg k1, if_pos k2]
        omega
      · have := h2 i (by omega) k1 k2
        by_cases hc : cl n = n
        · rw [if_pos hc, if_pos (hn hc)]; omega
        · rw [if_neg hc]; omega

theorem Round.more {n : Nat} {L : Nat → Nat} {K X : Nat → Nat → V} {cl nx : Nat → Nat} (h : Round n L K X cl nx) (ho : OnWay n L K X cl) {i : Nat} (hi : i < n) (hne : nx i ≠ cl i) : reps n cl < reps n nx := by
  have keep : ∀ i, i < n → cl i = i → nx i = i := fun i hi e => by
    have h1 := h.low i hi
    have h2 := (h.hit i hi).1
    have h3 := ho.low (nx i) (by omega)
    omega
  have h1 := h.low i hi
  refine (reps_mono cl nx n keep).2 (nx i) (by omega) (fun e => hne ?_) (h.idem hi)
  have := (h.hit i hi).1
  omega

end Go.Proofs.YtgflalfiopnmnaaGreatDoor

namespace Go.Proofs.YtgflalfiopnmnaaGreatDoor
open Go.RowKit Vl

structure ValsAt (w : World) (pa : Option Addr) (L B O : Nat) (P : Nat → V) : Prop where
  top : 0 < L → pa = some ⟨B, O, none⟩
  val : ∀ c, c < L → VAt w B (O + c * 4) (P c)
theorem ValsAt.below {w w' : World} {pa : Option Addr} {L B O : Nat} {P : Nat → V} (h : ValsAt w pa L B O P) (hb : Below w.heap.size w w') : ValsAt w' pa L B O P :=
  ⟨h.top, fun c hc => (h.val c hc).below hb⟩
theorem ValsAt.cells {w : World} {pa : Option Addr} {L B O : Nat} {P : Nat → V} (h : ValsAt w pa L B O P) {c : Nat} (hc : c < L) :
    w.cell? ⟨B, O + c * 4, none⟩ = some (.int .i64 (P c).k) ∧ w.cell? ⟨B, O + c * 4 + 1, none⟩ = some (.int .i64 (P c).n) ∧ w.cell? ⟨B, O + c * 4 + 2, none⟩ = some (.string (P c).s) ∧ w.cell? ⟨B, O + c * 4 + 3, none⟩ = some (.int .i64 (P c).a) := h.val c hc

theorem cells4 {w : World} {B : Nat} {a b c d : Value} {t : TypeId} (h : w.heap[B]? = some (.cells #[a, b, c, d] t (0, 0))) :
    w.cell? ⟨B, 0, none⟩ = some a ∧ w.cell? ⟨B, 1, none⟩ = some b ∧ w.cell? ⟨B, 2, none⟩ = some c ∧ w.cell? ⟨B, 3, none⟩ = some d ∧ ∀ i, w.frozen? ⟨B, i, none⟩ = false := by
  refine ⟨?_, ?_, ?_, ?_, fun i => ?_⟩ <;> simp [World.cell?, World.frozen?, h]
theorem put4r {w : World} {B : Nat} {a b c d : Value} {t : TypeId} (h : w.heap[B]? = some (.cells #[a, b, c, d] t (0, 0))) (a' b' c' d' : Value) :
    ((((w.setCell ⟨B, 0, none⟩ a').setCell ⟨B, 1, none⟩ b').setCell ⟨B, 2, none⟩ c').setCell ⟨B, 3, none⟩ d').heap[B]? = some (.cells #[a', b', c', d'] t (0, 0)) := by
  simp [World.setCell, Array.getElem?_modify, h]
theorem blkB {w w' : World} {b : Nat} {o : Obj} (h : w.heap[b]? = some o) (hb : Below w.heap.size w w') : w'.heap[b]? = some o := (hb.block b (blk_lt h)).trans h

def ValB (w : World) (B : Nat) (v : V) : Prop := w.heap[B]? = some (.cells #[.int .i64 v.k, .int .i64 v.n, .string v.s, .int .i64 v.a] 24 (0, 0))
theorem ValB.put {w : World} {B : Nat} {v : V} (h : ValB w B v) (x : V) : ValB ((((w.setCell ⟨B, 0, none⟩ (.int .i64 x.k)).setCell ⟨B, 1, none⟩ (.int .i64 x.n)).setCell ⟨B, 2, none⟩ (.string x.s)).setCell ⟨B, 3, none⟩ (.int .i64 x.a)) B x := put4r h _ _ _ _
theorem ValB.below {w w' : World} {B : Nat} {v : V} (h : ValB w B v) (hb : Below w.heap.size w w') : ValB w' B v := blkB h hb

structure SpB (w0 : World) (WB WH base : Nat) : Prop where
  wb : w0.heap.size ≤ WB
  wh : w0.heap.size ≤ WH
  ne : WB ≠ WH
  wbb : WB < base
  whb : WH < base

theorem owns_form {w : World} {base t s n : Nat} {v : Value} {xs : List Value} (h : w.ownsRow base t s v n xs) : ∃ oa oc, v = .slice oa n oc ∧ (∀ k, v.ownBlock = some k → base ≤ k ∧ k < w.heap.size) := by
  rcases h.2 with ⟨rfl, hn⟩ | ⟨g, cap, cur, rfl, hgb, hh, _⟩
  · obtain ⟨rfl, _⟩ := hn
    exact ⟨none, 0, rfl, fun k hk => by simp [Value.ownBlock] at hk⟩
  · exact ⟨_, _, rfl, fun k hk => by simp [Value.ownBlock] at hk; subst hk; exact ⟨hgb, blk_lt hh⟩⟩

structure FrV (WB WH : Nat) (ord ord' : Value) (w w' : World) : Prop where
  only : Only (fun k => k = WB ∨ k = WH ∨ ord.ownBlock = some k) w w'
  nxt : ∀ k, k < w.heap.size → ord'.ownBlock = some k → ord.ownBlock = some k
theorem FrV.refl (WB WH : Nat) (ord : Value) (w : World) : FrV WB WH ord ord w w := ⟨Only.refl _ _, fun _ _ h => h⟩
theorem FrV.trans {WB WH : Nat} {o1 o2 o3 : Value} {a b c : World} (h : FrV WB WH o1 o2 a b) (k : FrV WB WH o2 o3 b c) : FrV WB WH o1 o3 a c :=
  ⟨⟨k.only.os.trans h.only.os, k.only.tape.trans h.only.tape, k.only.output.trans h.only.output, Nat.le_trans h.only.size k.only.size, fun i hi hp => by
      rw [k.only.block i (Nat.lt_of_lt_of_le hi h.only.size) (fun x => hp (by
        rcases x with x | x | x
        · exact Or.inl x
        · exact Or.inr (Or.inl x)
        · exact Or.inr (Or.inr (h.nxt i hi x)))), h.only.block i hi hp]⟩,
    fun i hi x => h.nxt i hi (k.nxt i (Nat.lt_of_lt_of_le hi h.only.size) x)⟩
theorem FrV.below {WB WH : Nat} {o1 o2 : Value} {a b c : World} (h : FrV WB WH o1 o2 a b) (k : Below b.heap.size b c) : FrV WB WH o1 o2 a c := h.trans ⟨Only.below k, fun _ _ h => h⟩
theorem FrV.first {WB WH : Nat} {o : Value} {a b : World} (k : Below a.heap.size a b) : FrV WB WH o o a b := ⟨Only.below k, fun _ _ h => h⟩
theorem FrV.blk {WB WH : Nat} {o1 o2 : Value} {a b : World} (h : FrV WB WH o1 o2 a b) {k : Nat} {o : Obj} (hk : a.heap[k]? = some o) (h1 : k ≠ WB) (h2 : k ≠ WH) (h3 : o1.ownBlock ≠ some k) : b.heap[k]? = some o := by
  rw [h.only.block k (blk_lt hk) (fun x => by rcases x with x | x | x; exact h1 x; exact h2 x; exact h3 x)]
  exact hk

theorem Only.ownsB {P : Nat → Prop} {a b : World} (h : Only P a b) {base t s n : Nat} {v : Value} {xs : List Value} (ho : a.ownsRow base t s v n xs) (hB : ∀ g, v.ownBlock = some g → ¬ P g) : b.ownsRow base t s v n xs := by
  refine ⟨ho.1, ?_⟩
  rcases ho.2 with h2 | ⟨g, cap, cur, hv, hg, hh, r⟩
  · exact Or.inl h2
  · exact Or.inr ⟨g, cap, cur, hv, hg, by rw [h.block g (lt_of_block hh) (hB g (by rw [hv]; rfl))]; exact hh, r⟩

theorem owns_cell {w : World} {base t s n : Nat} {v : Value} {xs : List Value} (h : w.ownsRow base t s v n xs) {k : Nat} {y : Value} (hk : xs[k]? = some y) : ∃ g cap, v = .slice (some ⟨g, 0, none⟩) n cap ∧ w.cell? ⟨g, k, none⟩ = some y := by
  rcases h.2 with ⟨rfl, rfl⟩ | ⟨g, cap, cur, rfl, _, hh, _, _, _, ht⟩
  · have := h.1
    simp at this
    subst this
    cases hk
  · refine ⟨g, cap, rfl, ?_⟩
    rw [← ht, List.getElem?_take] at hk
    split at hk
    · simp [World.cell?, hh]
      simpa using hk
    · cases hk

def slA : Value → Option Addr
  | .slice a _ _ => a
  | _ => none
def slC : Value → Nat
  | .slice _ _ c => c
  | _ => 0
def slB (v : Value) : Nat := match slA v with
  | some a => a.block
  | none => 0

theorem owns_type {w : World} {base t s n : Nat} {v : Value} {xs : List Value} (h : w.ownsRow base t s v n xs) {g : Nat} (hg : v.ownBlock = some g) : base ≤ g ∧ ∃ cur, w.heap[g]? = some (.cells cur t (0, 0)) := by
  rcases h.2 with ⟨rfl, _⟩ | ⟨g', cap, cur, rfl, hge, hh, _⟩
  · simp [Value.ownBlock] at hg
  · simp [Value.ownBlock] at hg
    subst hg
    exact ⟨hge, cur, hh⟩

theorem owns_mono {w : World} {base base' t s n : Nat} {v : Value} {xs : List Value} (h : w.ownsRow base t s v n xs) (hb : base' ≤ base) : w.ownsRow base' t s v n xs := by
  refine ⟨h.1, ?_⟩
  rcases h.2 with h2 | ⟨g, cap, cur, hv, hge, r⟩
  · exact Or.inl h2
  · exact Or.inr ⟨g, cap, cur, hv, by omega, r⟩

end Go.Proofs.YtgflalfiopnmnaaGreatDoor

namespace Go.Proofs.YtgflalfiopnmnaaGreatDoor
open Go.RowKit Vl

def findG {α : Type} (eqb : α → α → Bool) (v : α) : List (α × Value) → Option Value
  | [] => none
  | (k, x) :: l => if eqb v k = true then some x else findG eqb v l

structure Keyed {α : Type} (mt kt et : TypeId) (enc : α → Value) (ok : World → α → Prop) (eqb : α → α → Bool) (z : Value) : Prop where
  und : Tryz.prog.underlying mt = some (.map kt et)
  eq : ∀ u v w, ok w u → ok w v → (Op.equal kt (enc u) (enc v)).run Tryz.prog w = .ok (eqb u v) w
  chk : ∀ em v w, (Instr.checkKey em 10000 kt (enc v)).run Tryz.prog w = .ok () w
  now : ∃ d, Tryz.prog.underlying kt = some d ∧ ∀ u v, Instr.sameNow d (enc u) (enc v) = none
  zero : ∀ w, (zeroValue et).run Tryz.prog w = .ok z w

theorem find_g {α : Type} {mt kt et : TypeId} {enc : α → Value} {ok : World → α → Prop} {eqb : α → α → Bool} {z : Value} (hK : Keyed mt kt et enc ok eqb z) (v : α) (w : World) (hv : ok w v) : ∀ (es : List MapEntry) (l : List (α × Value)) (i : Nat), (∀ p ∈ l, ok w p.1) → es.map (fun e => (e.key, e.val)) = l.map (fun p => (enc p.1, p.2)) →
    (findG eqb v l = none → (Instr.findAsking kt (enc v) es i).run Tryz.prog w = .ok none w) ∧ (∀ x, findG eqb v l = some x → ∃ j, (Instr.findAsking kt (enc v) es i).run Tryz.prog w = .ok (some (j, x)) w)
  | [], [], i, _, _ => ⟨fun _ => rfl, fun x h => by cases h⟩
  | [], _ :: _, i, _, h => by simp at h
  | _ :: _, [], i, _, h => by simp at h
  | e :: es, (k, x) :: l, i, hl, h => by
    simp only [List.map_cons, List.cons.injEq, Prod.mk.injEq] at h
    obtain ⟨⟨h1, h2⟩, h3⟩ := h
    have ih := find_g hK v w hv es l (i + 1) (fun p hp => hl p (List.mem_cons_of_mem _ hp)) h3
    have e1 : (Instr.findAsking kt (enc v) (e :: es) i).run Tryz.prog w = if eqb v k = true then .ok (some (i, e.val)) w else (Instr.findAsking kt (enc v) es (i + 1)).run Tryz.prog w := by
      conv => lhs; unfold Instr.findAsking
      rw [Sem.run_bind, h1, hK.eq _ _ _ hv (hl (k, x) (by simp))]
      simp only [Result.andThen_ok]
      cases eqb v k <;> simp
    rw [e1]
    unfold findG
    by_cases he : eqb v k = true
    · rw [if_pos he, if_pos he, h2]
      exact ⟨fun h => (by cases h), fun y h => ⟨i, by cases h; rfl⟩⟩
    · rw [if_neg he, if_neg he]
      exact ih

theorem findKey_g {α : Type} {mt kt et : TypeId} {enc : α → Value} {ok : World → α → Prop} {eqb : α → α → Bool} {z : Value} (hK : Keyed mt kt et enc ok eqb z) (v : α) (w : World) (hv : ok w v) (es : List MapEntry) (l : List (α × Value)) (hl : ∀ p ∈ l, ok w p.1) (h : es.map (fun e => (e.key, e.val)) = l.map (fun p => (enc p.1, p.2))) :
    (findG eqb v l = none → (Instr.findKey kt (enc v) es).run Tryz.prog w = .ok none w) ∧ (∀ x, findG eqb v l = some x → ∃ j, (Instr.findKey kt (enc v) es).run Tryz.prog w = .ok (some (j, x)) w) := by
  have hf := find_g hK v w hv es l 0 hl h
  obtain ⟨d, hd, hn⟩ := hK.now
  have e1 : (Instr.findKey kt (enc v) es).run Tryz.prog w = (Instr.findAsking kt (enc v) es 0).run Tryz.prog w := by
    unfold Instr.findKey
    rw [Sem.run_bind, run_underlying hd]
    simp only [Result.andThen_ok]
    cases es with
    | nil => rfl
    | cons e es =>
      cases l with
      | nil => simp at h
      | cons p l =>
        simp only [List.map_cons, List.cons.injEq, Prod.mk.injEq] at h
        have : Instr.findNow d (enc v) (e :: es) 0 = none := by
          unfold Instr.findNow
          rw [h.1.1, hn]
        rw [this]
  rw [e1]
  exact hf

def MapG {α : Type} (enc : α → Value) (w : World) (M : Nat) (l : List (α × Value)) : Prop := ∃ es clk, w.heap[M]? = some (.map es clk) ∧ es.toList.map (fun e => (e.key, e.val)) = l.map (fun p => (enc p.1, p.2))

theorem MapG.same {α : Type} {enc : α → Value} {w w' : World} {M : Nat} {l : List (α × Value)} (h : MapG enc w M l) (e : w'.heap[M]? = w.heap[M]?) : MapG enc w' M l := by
  obtain ⟨es, clk, h1, h2⟩ := h
  exact ⟨es, clk, e.trans h1, h2⟩
theorem MapG.lt {α : Type} {enc : α → Value} {w : World} {M : Nat} {l : List (α × Value)} (h : MapG enc w M l) : M < w.heap.size := by
  obtain ⟨es, clk, h1, _⟩ := h
  exact blk_lt h1
theorem MapG.len {α : Type} {enc : α → Value} {w : World} {M : Nat} {l : List (α × Value)} (h : MapG enc w M l) : ∃ es clk, w.heap[M]? = some (.map es clk) ∧ es.size = l.length := by
  obtain ⟨es, clk, h1, h2⟩ := h
  refine ⟨es, clk, h1, ?_⟩
  have := congrArg List.length h2
  simpa using this

theorem MapG.lookup {α : Type} {mt kt et : TypeId} {enc : α → Value} {ok : World → α → Prop} {eqb : α → α → Bool} {z : Value} (hK : Keyed mt kt et enc ok eqb z) {w : World} {M : Nat} {l : List (α × Value)} (h : MapG enc w M l) (v : α) (hv : ok w v) (hok : ∀ p ∈ l, ok w p.1) :
    (Instr.lookup mt (.map (some M)) (enc v) true).run Tryz.prog w = .ok (.tuple #[(findG eqb v l).getD z, .bool (findG eqb v l).isSome]) w ∧
    (Instr.lookup mt (.map (some M)) (enc v) false).run Tryz.prog w = .ok ((findG eqb v l).getD z) w := by
  obtain ⟨es, clk, hb, hl⟩ := h
  have hk := findKey_g hK v w hv es.toList l hok hl
  cases hf : findG eqb v l with
  | none =>
    have h1 := hk.1 hf
    constructor <;> simp [Instr.lookup, run_underlying hK.und, MapKept.run_getObj_map hb, hK.chk, h1, hK.zero, Result.andThen]
  | some x =>
    obtain ⟨j, h1⟩ := hk.2 x hf
    constructor <;> simp [Instr.lookup, run_underlying hK.und, MapKept.run_getObj_map hb, hK.chk, h1, Result.andThen]

theorem MapG.update {α : Type} {mt kt et : TypeId} {enc : α → Value} {ok : World → α → Prop} {eqb : α → α → Bool} {z : Value} (hK : Keyed mt kt et enc ok eqb z) {w : World} {M : Nat} {l : List (α × Value)} (h : MapG enc w M l) (v : α) (x : Value) (hv : ok w v) (hok : ∀ p ∈ l, ok w p.1) (hf : findG eqb v l = none) :
    ∃ w', (Instr.mapUpdate mt (.map (some M)) (enc v) x).run Tryz.prog w = .ok () w' ∧ MapG enc w' M (l ++ [(v, x)]) ∧ Only (fun k => k = M) w w' ∧ w'.heap.size = w.heap.size := by
  obtain ⟨es, clk, hb, hl⟩ := h
  have hk := (findKey_g hK v w hv es.toList l hok hl).1 hf
  refine ⟨{ w with heap := w.heap.setIfInBounds M (.map (es.push { key := enc v, val := x, born := clk }) (clk + 1)) }, ?_, ?_, ?_, by simp⟩
  · simp [Instr.mapUpdate, run_underlying hK.und, MapKept.run_getObj_map hb, hK.chk, hk, Result.andThen, MapKept.run_setObj_map _ hb]
  · refine ⟨_, _, by rw [Array.getElem?_setIfInBounds_self_of_lt (blk_lt hb)], ?_⟩
    simp [hl]
  · refine ⟨rfl, rfl, rfl, by simp, fun k _ hk => ?_⟩
    show (w.heap.setIfInBounds M _)[k]? = w.heap[k]?
    rw [Array.getElem?_setIfInBounds_ne (fun e => hk e.symm)]

abbrev ptr (b : Nat) : Value := .pointer (some ⟨b, 0, none⟩)
def IsB (w : World) (b : Nat) : Prop := ∃ ca ta, w.heap[b]? = some (.cells ca ta (0, 0))
theorem size_table : ∃ j, Tryz.prog.info? 121 = some j ∧ j.size ≠ 0 := by
  have h : (Tryz.prog.info? 121).map (fun i => i.size) = some 3 := by kernel_rfl
  cases hi : Tryz.prog.info? 121 with
  | none => rw [hi] at h; cases h
  | some j => rw [hi] at h; exact ⟨j, rfl, by simp at h; omega⟩
theorem eq_ptr (u v : Nat) (w : World) (hu : IsB w u) (hv : IsB w v) (d : Nat) : (Op.equalIn (d + 1) 107 (ptr u) (ptr v)).run Tryz.prog w = .ok (u == v) w := by
  obtain ⟨j, hj, hs⟩ := size_table
  obtain ⟨ca, ta, ha⟩ := hu
  obtain ⟨cb, tb, hb⟩ := hv
  by_cases h : u = v
  · subst h
    simp [Op.equalIn, run_underlying Tryz.underlying107, sizeOf, typeInfo, hj, run_sameAddr_same]
  · have hne : (⟨u, 0, none⟩ : Addr) ≠ ⟨v, 0, none⟩ := fun e => h (by cases e; rfl)
    simp [Op.equalIn, run_underlying Tryz.underlying107, sizeOf, typeInfo, hj, hs, run_sameAddr_other w hne ha hb, h]
theorem findG_mem (f : Nat → Nat) (hf : Nat → Value) (r : Nat) : ∀ (S : List Nat), (∀ i ∈ S, f i = f r → i = r) → (findG (fun a b => a == b) (f r) (S.map fun i => (f i, hf i))).isSome = decide (r ∈ S)
  | [], _ => rfl
  | i :: S, h => by
    simp only [List.map_cons, findG]
    by_cases e : f r = f i
    · rw [if_pos (by simpa using e)]
      have := h i (by simp) e.symm
      subst this
      simp
    · rw [if_neg (by simpa using e), findG_mem f hf r S (fun j hj => h j (by simp [hj]))]
      have : ¬ r = i := fun x => e (by rw [x])
      simp [this]

theorem findG_const {α : Type} (eqb : α → α → Bool) (v : α) (T : Nat → α) (c : Value) : ∀ S : List Nat, (findG eqb v (S.map fun j => (T j, c))).getD c = c
  | [] => rfl
  | i :: S => by
    simp only [List.map_cons, findG]
    split
    · rfl
    · exact findG_const eqb v T c S

end Go.Proofs.YtgflalfiopnmnaaGreatDoor

namespace Go.Proofs.YtgflalfiopnmnaaGreatDoor
open Go.RowKit Vl

def atV (at_ : Nat → Int) (v : V) : V := if v.k = 4 then ⟨v.k, v.n, v.s, at_ v.a.toNat⟩ else v

theorem as_at {n : Nat} {v : V} (hv : isV n v = true) (T : Nat → Nat) (at_ : Nat → Int) :
    ∃ (t : TypeId) (y : Value) (F : Nat), ifv T v = .iface t y ∧ (∀ w f, (method (f + 3) t y "loop.example/cloth/impl.asVal").run Tryz.prog w = .ok (F, y) w) ∧ (∀ args w, (callFunc F args).run Tryz.prog w = .ok (.enter F args) w) ∧
      ∀ w, (∀ j, j < n → w.cell? ⟨T j, 0, none⟩ = some (.int .i64 (at_ j))) → Calls Tryz.prog F #[y] w fun e w' => e = .returned (vAgg (atV at_ v)) ∧ Below w.heap.size w w' := by
  obtain ⟨k, m, s, a⟩ := v
  by_cases k0 : k = 0
  · subst k0
    simp [isV] at hv
    obtain ⟨rfl, hs, rfl⟩ := hv
    obtain rfl := bytes_empty hs
    exact ⟨_, _, _, rfl, meth_0, Tryz.call213, fun w _ => asNil_any w⟩
  by_cases k1 : k = 1
  · subst k1
    simp [isV] at hv
    obtain ⟨hm, hs, rfl⟩ := hv
    obtain rfl := bytes_empty hs
    refine ⟨_, _, _, rfl, meth_1 _, Tryz.call225, fun w _ => (asBool_any _ w).mono ?_⟩
    rintro e w' ⟨rfl, h⟩
    refine ⟨?_, h⟩
    rcases hm with rfl | rfl <;> rfl
  by_cases k2 : k = 2
  · subst k2
    simp [isV] at hv
    obtain ⟨hs, rfl⟩ := hv
    obtain rfl := bytes_empty hs
    exact ⟨_, _, _, rfl, meth_2 _, Tryz.call226, fun w _ => asInt_any m w⟩
  by_cases k3 : k = 3
  · subst k3
    simp [isV] at hv
    obtain ⟨rfl, rfl, _⟩ := hv
    exact ⟨_, _, _, rfl, meth_3 _, Tryz.call227, fun w _ => asText_any s w⟩
  by_cases k4 : k = 4
  · subst k4
    simp [isV] at hv
    obtain ⟨rfl, hs, ha0, ha1⟩ := hv
    obtain rfl := bytes_empty hs
    refine ⟨_, _, _, rfl, meth_4 _, Tryz.call209, fun w hT => asTab_any _ (at_ a.toNat) w ?_⟩
    exact hT a.toNat (by omega)
  · simp [isV, k0, k1, k2, k3, k4] at hv

theorem assert_no {n : Nat} {v : V} (hv : isV n v = true) (h4 : v.k ≠ 4) (T : Nat → Nat) (w : World) : (Instr.typeAssert (ifv T v) 54 107 true).run Tryz.prog w = .ok (.tuple #[.pointer none, .bool false]) w := by
  obtain ⟨q, m, s, a⟩ := v
  by_cases k0 : q = 0
  · subst k0; kernel_rfl
  by_cases k1 : q = 1
  · subst k1; kernel_rfl
  by_cases k2 : q = 2
  · subst k2; kernel_rfl
  by_cases k3 : q = 3
  · subst k3; kernel_rfl
  · have k4 : ¬ q = 4 := h4
    simp [isV, k0, k1, k2, k3, k4] at hv
theorem ifv_tab {v : V} (h4 : v.k = 4) (T : Nat → Nat) : ifv T v = .iface 107 (.pointer (some ⟨T v.a.toNat, 0, none⟩)) := by
  unfold ifv
  rw [if_neg (by omega), if_neg (by omega), if_neg (by omega), if_neg (by omega)]
theorem assert_yes (b : Nat) (w : World) : (Instr.typeAssert (.iface 107 (.pointer (some ⟨b, 0, none⟩))) 54 107 true).run Tryz.prog w = .ok (.tuple #[.pointer (some ⟨b, 0, none⟩), .bool true]) w := by kernel_rfl

structure Tbs (w : World) (n : Nat) (T M : Nat → Nat) (at_ : Nat → Int) (L : Nat → Nat) (K X : Nat → Nat → V) : Prop where
  tab : ∀ j, j < n → ∃ ord, TabB w (T j) (M j) (at_ j) ord ∧ w.ownsRow 0 24 4 ord (L j) (keyCells (keys (K j) (L j)))
  map : ∀ j, j < n → ∃ l, MapIs w (M j) l ∧ ∀ c, c < L j → findV (K j c) l = some (ifv T (X j c))
  inj : ∀ i j, i < n → j < n → T i = T j → i = j
  gone : ∀ j, j < n → ∀ l, MapIs w (M j) l → ∀ v, (∀ c, c < L j → K j c ≠ v) → findV v l = none

theorem vAgg_inj {u v : V} (h : vAgg u = vAgg v) : u = v := by
  obtain ⟨k, n, s, a⟩ := u
  obtain ⟨k', n', s', a'⟩ := v
  simpa [vAgg] using h
theorem map_inj : ∀ (l l' : List (V × Value)), l.map (fun p => (vAgg p.1, p.2)) = l'.map (fun p => (vAgg p.1, p.2)) → l = l'
  | [], [], _ => rfl
  | [], _ :: _, h => by simp at h
  | _ :: _, [], h => by simp at h
  | (u, x) :: l, (v, y) :: l', h => by
    simp only [List.map_cons, List.cons.injEq, Prod.mk.injEq] at h
    obtain ⟨⟨h1, h2⟩, h3⟩ := h
    rw [vAgg_inj h1, h2, map_inj l l' h3]
theorem MapIs.uniq {w : World} {M : Nat} {l l' : List (V × Value)} (h : MapIs w M l) (h' : MapIs w M l') : l = l' := by
  obtain ⟨es, clk, a, b⟩ := h
  obtain ⟨es', clk', a', b'⟩ := h'
  rw [a] at a'
  cases a'
  exact map_inj l l' (b.symm.trans b')
theorem Tbs.noneB {w w' : World} {n : Nat} {T M : Nat → Nat} {at_ : Nat → Int} {L : Nat → Nat} {K X : Nat → Nat → V} (h : Tbs w n T M at_ L K X) (hM : ∀ j, j < n → w'.heap[M j]? = w.heap[M j]?) : ∀ j, j < n → ∀ l, MapIs w' (M j) l → ∀ v, (∀ c, c < L j → K j c ≠ v) → findV v l = none :=
  fun j hj l hl v hv => h.gone j hj l (hl.same (hM j hj).symm) v hv

theorem Tbs.lt {w : World} {n : Nat} {T M : Nat → Nat} {at_ : Nat → Int} {L : Nat → Nat} {K X : Nat → Nat → V} (h : Tbs w n T M at_ L K X) {j : Nat} (hj : j < n) : T j < w.heap.size := by
  obtain ⟨ord, h1, _⟩ := h.tab j hj
  exact blk_lt h1
theorem Tbs.only {w w' : World} {n : Nat} {T M : Nat → Nat} {at_ : Nat → Int} {L : Nat → Nat} {K X : Nat → Nat → V} {P : Nat → Prop} (h : Tbs w n T M at_ L K X) (ho : Only P w w') (hP : ∀ k, k < w.heap.size → ¬ P k) : Tbs w' n T M at_ L K X := by
  refine ⟨fun j hj => ?_, fun j hj => ?_, h.inj, h.noneB (fun j hj => ?_)⟩
  · obtain ⟨ord, h1, h2⟩ := h.tab j hj
    exact ⟨ord, (ho.block _ (blk_lt h1) (hP _ (blk_lt h1))).trans h1, ho.owns h2 (fun g _ hg => hP g hg)⟩
  · obtain ⟨l, h1, h2⟩ := h.map j hj
    exact ⟨l, h1.same (ho.block _ h1.lt (hP _ h1.lt)), h2⟩
  · obtain ⟨l, h1, _⟩ := h.map j hj
    exact ho.block _ h1.lt (hP _ h1.lt)
theorem Tbs.below {w w' : World} {n : Nat} {T M : Nat → Nat} {at_ : Nat → Int} {L : Nat → Nat} {K X : Nat → Nat → V} (h : Tbs w n T M at_ L K X) (hb : Below w.heap.size w w') : Tbs w' n T M at_ L K X :=
  h.only (Only.below (P := fun _ => False) hb) (fun _ _ h => h)
theorem Tbs.at0 {w : World} {n : Nat} {T M : Nat → Nat} {at_ : Nat → Int} {L : Nat → Nat} {K X : Nat → Nat → V} (h : Tbs w n T M at_ L K X) : ∀ j, j < n → w.cell? ⟨T j, 0, none⟩ = some (.int .i64 (at_ j)) := fun j hj => by
  obtain ⟨ord, h1, _⟩ := h.tab j hj
  exact h1.cells.1

theorem Tbs.only' {w w' : World} {n : Nat} {T M : Nat → Nat} {at_ : Nat → Int} {L : Nat → Nat} {K X : Nat → Nat → V} {ob t : Nat} {cs : Array Value} {z : Nat × Nat} (h : Tbs w n T M at_ L K X) (ho : Only (fun k => k = ob) w w') (hob : w.heap[ob]? = some (.cells cs t z)) (h1 : t ≠ 121) (h2 : t ≠ 24) : Tbs w' n T M at_ L K X := by
  refine ⟨fun j hj => ?_, fun j hj => ?_, h.inj, h.noneB (fun j hj => ?_)⟩
  rotate_left 2
  · obtain ⟨l, a1, _⟩ := h.map j hj
    refine ho.block _ a1.lt (fun e => ?_)
    obtain ⟨es, clk, hb, _⟩ := a1
    rw [e, hob] at hb
    cases hb
  · obtain ⟨ord, a1, a2⟩ := h.tab j hj
    refine ⟨ord, (ho.block _ (blk_lt a1) (fun e => ?_)).trans a1, ho.ownsB a2 (fun g hg e => ?_)⟩
    · unfold TabB at a1
      rw [e, hob] at a1
      cases a1
      exact h1 rfl
    · obtain ⟨_, cur, hc⟩ := owns_type a2 hg
      rw [e, hob] at hc
      cases hc
      exact h2 rfl
  · obtain ⟨l, a1, a2⟩ := h.map j hj
    refine ⟨l, a1.same (ho.block _ a1.lt (fun e => ?_)), a2⟩
    obtain ⟨es, clk, hb, _⟩ := a1
    rw [e, hob] at hb
    cases hb

theorem Tbs.setAt {w : World} {n : Nat} {T M : Nat → Nat} {at_ : Nat → Int} {L : Nat → Nat} {K X : Nat → Nat → V} (h : Tbs w n T M at_ L K X) {r : Nat} (hr : r < n) (i : Int) : Tbs (w.setCell ⟨T r, 0, none⟩ (.int .i64 i)) n T M (fun j => if j = r then i else at_ j) L K X := by
  obtain ⟨ordr, hr1, _⟩ := h.tab r hr
  have hne : ∀ k, k ≠ T r → (w.setCell ⟨T r, 0, none⟩ (.int .i64 i)).heap[k]? = w.heap[k]? := fun k hk => Below.heap_setCell _ _ _ _ hk
  refine ⟨fun j hj => ?_, fun j hj => ?_, h.inj, h.noneB (fun j hj => ?_)⟩
  rotate_left 2
  · obtain ⟨l, h1, _⟩ := h.map j hj
    refine hne _ (fun e => ?_)
    obtain ⟨es, clk, hb, _⟩ := h1
    unfold TabB at hr1
    rw [e, hr1] at hb
    cases hb
  · obtain ⟨ord, h1, h2⟩ := h.tab j hj
    refine ⟨ord, ?_, ?_⟩
    · by_cases e : j = r
      · subst e
        rw [if_pos rfl]
        unfold TabB at h1 ⊢
        simp [World.setCell, Array.getElem?_modify, h1]
      · rw [if_neg e]
        exact (hne _ (fun x => e (h.inj j r hj hr x))).trans h1
    · refine ⟨h2.1, ?_⟩
      rcases h2.2 with h3 | ⟨g, cap, cur, hv, hge, hh, rest⟩
      · exact Or.inl h3
      · refine Or.inr ⟨g, cap, cur, hv, hge, ?_, rest⟩
        rw [hne g (fun e => ?_)]
        · exact hh
        · subst e
          unfold TabB at hr1
          rw [hr1] at hh
          cases hh
  · obtain ⟨l, h1, h2⟩ := h.map j hj
    refine ⟨l, h1.same (hne _ (fun e => ?_)), h2⟩
    obtain ⟨es, clk, hb, _⟩ := h1
    unfold TabB at hr1
    rw [e, hr1] at hb
    cases hb

theorem Half.tbs {w : World} {b n : Nat} {u : V} {base L : Nat → Nat} {K X : Nat → Nat → V} (h : Half w b n n base L K X) (hg : OkG n u L K X) : Tbs w n (tT b) (tM b) (fun j => (j : Nat)) L K X := by
  refine ⟨fun j hj => ?_, fun j hj => ?_, fun i j _ _ e => by unfold tT at e; omega, fun j hj l hl v hv => ?_⟩
  rotate_left 2
  · rw [hl.uniq (h.full j hj).1.map, mp_none]
    intro c hc
    cases e : eqV (K j c) v with
    | false => rfl
    | true => exact absurd (eqV_iff.1 e) (hv c hc)
  · obtain ⟨ord, h1, h2⟩ := (h.full j hj).1.tab
    rw [keys_len] at h2
    exact ⟨ord, h1, owns_mono h2 (Nat.zero_le _)⟩
  · refine ⟨_, (h.full j hj).1.map, fun c hc => ?_⟩
    unfold mp
    rw [find_js]
    have : (List.range (L j)).find? (fun i => eqV (K j i) (K j c)) = some c := by
      rw [List.find?_range_eq_some]
      refine ⟨?_, List.mem_range.2 hc, fun i hi => by rw [((hg.all j hj).all c hc).once i hi]; rfl⟩
      simp [eqV]
    rw [this]
    rfl

theorem owns_keys {w : World} {base L : Nat} {v : Value} {K : Nat → V} (h : w.ownsRow base 24 4 v L (keyCells (keys K L))) : v = .slice (slA v) L (slC v) ∧ ValsAt w (slA v) L (slB v) 0 K := by
  have hform : v = .slice (slA v) L (slC v) := by
    obtain ⟨oa, oc, rfl, _⟩ := owns_form h
    rfl
  refine ⟨hform, ?_⟩
  have kat : ∀ (L j i : Nat), j < L → i < 4 → (keyCells (keys K L))[j * 4 + i]? = [Value.int .i64 (K j).k, .int .i64 (K j).n, .string (K j).s, .int .i64 (K j).a][i]? := by
    intro L
    have klen : ∀ L, (keyCells (keys K L)).length = L * 4 := fun L => by
      induction L with
      | zero => rfl
      | succ L ih => rw [keys_succ]; simp only [keyCells, List.flatMap_append, List.length_append] at ih ⊢; rw [ih]; simp; omega
    induction L with
    | zero => intro j i hj; omega
    | succ L ih =>
      intro j i hj hi
      rw [keys_succ]
      have e : keyCells (keys K L ++ [K L]) = keyCells (keys K L) ++ [.int .i64 (K L).k, .int .i64 (K L).n, .string (K L).s, .int .i64 (K L).a] := by simp [keyCells]
      rw [e]
      by_cases e : j = L
      · subst e
        rw [List.getElem?_append_right (by rw [klen]; omega), klen, show j * 4 + i - j * 4 = i by omega]
      · rw [List.getElem?_append_left (by rw [klen]; omega)]
        exact ih j i (by omega) hi
  have top : ∀ j i, j < L → i < 4 → ∃ g cap, v = .slice (some ⟨g, 0, none⟩) L cap ∧ w.cell? ⟨g, j * 4 + i, none⟩ = [Value.int .i64 (K j).k, .int .i64 (K j).n, .string (K j).s, .int .i64 (K j).a][i]? := by
    intro j i hj hi
    have e := kat L j i hj hi
    obtain ⟨y, hy⟩ : ∃ y, [Value.int .i64 (K j).k, .int .i64 (K j).n, .string (K j).s, .int .i64 (K j).a][i]? = some y := ⟨_, List.getElem?_eq_getElem (by simpa using hi)⟩
    rw [hy] at e ⊢
    exact owns_cell h e
  have cell : ∀ j i, j < L → i < 4 → w.cell? ⟨slB v, j * 4 + i, none⟩ = [Value.int .i64 (K j).k, .int .i64 (K j).n, .string (K j).s, .int .i64 (K j).a][i]? := by
    intro j i hj hi
    obtain ⟨g, cap, rfl, hc⟩ := top j i hj hi
    exact hc
  refine ⟨fun h0 => ?_, fun j hj => ?_⟩
  · obtain ⟨g, cap, rfl, _⟩ := top 0 0 h0 (by omega)
    rfl
  · rw [Nat.zero_add]
    exact ⟨cell j 0 hj (by omega), cell j 1 hj (by omega), cell j 2 hj (by omega), cell j 3 hj (by omega)⟩

end Go.Proofs.YtgflalfiopnmnaaGreatDoor

namespace Go.Proofs.YtgflalfiopnmnaaGreatDoor
open Go.RowKit Vl

def vc (P : Nat → V) (i : Nat) : Value :=
  if i % 4 = 0 then .int .i64 (P (i / 4)).k else if i % 4 = 1 then .int .i64 (P (i / 4)).n else if i % 4 = 2 then .string (P (i / 4)).s else .int .i64 (P (i / 4)).a
theorem infoV : (Tryz.prog.info? 24).map (fun i => (i.zero, i.size, i.bytes)) = some (some (.agg #[.int .i64 0, .int .i64 0, .string ⟨#[]⟩, .int .i64 0]), 4, 40) := by kernel_rfl

end Go.Proofs.YtgflalfiopnmnaaGreatDoor

namespace Go.Proofs.YtgflalfiopnmnaaGreatDoor
open Go.RowKit Vl

end Go.Proofs.YtgflalfiopnmnaaGreatDoor

namespace Go.Proofs.YtgflalfiopnmnaaGreatDoor
open Go.RowKit Vl

def natCells (S : List Nat) : List Value := S.map fun i => .int .i64 (i : Nat)
theorem natCells_snoc (S : List Nat) (r : Nat) : natCells (S ++ [r]) = natCells S ++ [.int .i64 (r : Nat)] := by simp [natCells]

end Go.Proofs.YtgflalfiopnmnaaGreatDoor

namespace Go.Proofs.YtgflalfiopnmnaaGreatDoor
open Go.RowKit Vl

theorem Tryz.infoN : (Tryz.prog.info? 3).map (fun i => (i.zero, i.size, i.bytes)) = some (some (.int .i64 0), 1, 8) := by kernel_rfl

end Go.Proofs.YtgflalfiopnmnaaGreatDoor

namespace Go.Proofs.YtgflalfiopnmnaaGreatDoor
open Go.RowKit Vl

def pairCells (K X : Nat → V) (c : Nat) : List Value := (List.range c).flatMap fun j => [.int .i64 (K j).k, .int .i64 (K j).n, .string (K j).s, .int .i64 (K j).a, .int .i64 (X j).k, .int .i64 (X j).n, .string (X j).s, .int .i64 (X j).a]
theorem pairCells_succ (K X : Nat → V) (c : Nat) : pairCells K X (c + 1) = pairCells K X c ++ [.int .i64 (K c).k, .int .i64 (K c).n, .string (K c).s, .int .i64 (K c).a, .int .i64 (X c).k, .int .i64 (X c).n, .string (X c).s, .int .i64 (X c).a] := by
  simp [pairCells, List.range_succ]
theorem pairCells_len (K X : Nat → V) (c : Nat) : (pairCells K X c).length = c * 8 := by
  induction c with
  | zero => rfl
  | succ c ih => rw [pairCells_succ, List.length_append, ih]; simp; omega
theorem pairCells_at (K X : Nat → V) (c j i : Nat) (hj : j < c) (hi : i < 8) : (pairCells K X c)[j * 8 + i]? = [Value.int .i64 (K j).k, .int .i64 (K j).n, .string (K j).s, .int .i64 (K j).a, .int .i64 (X j).k, .int .i64 (X j).n, .string (X j).s, .int .i64 (X j).a][i]? := by
  induction c with
  | zero => omega
  | succ c ih =>
    rw [pairCells_succ]
    by_cases e : j = c
    · subst e
      rw [List.getElem?_append_right (by rw [pairCells_len]; omega), pairCells_len, show j * 8 + i - j * 8 = i by omega]
    · rw [List.getElem?_append_left (by rw [pairCells_len]; omega)]
      exact ih (by omega)
theorem pairCells_congr {K X K' X' : Nat → V} {c : Nat} (h : ∀ j, j < c → K j = K' j ∧ X j = X' j) : pairCells K X c = pairCells K' X' c := by
  induction c with
  | zero => rfl
  | succ c ih => rw [pairCells_succ, pairCells_succ, ih (fun j hj => h j (by omega)), (h c (by omega)).1, (h c (by omega)).2]

theorem owns_pairs {w : World} {base L : Nat} {v : Value} {K X : Nat → V} (h : w.ownsRow base 39 8 v L (pairCells K X L)) : v = .slice (slA v) L (slC v) ∧ PairsAt w (slA v) L (slB v) 0 K X := by
  have hform : v = .slice (slA v) L (slC v) := by
    obtain ⟨oa, oc, rfl, _⟩ := owns_form h
    rfl
  refine ⟨hform, ?_⟩
  have top : ∀ j i, j < L → i < 8 → ∃ g cap, v = .slice (some ⟨g, 0, none⟩) L cap ∧ w.cell? ⟨g, j * 8 + i, none⟩ = [Value.int .i64 (K j).k, .int .i64 (K j).n, .string (K j).s, .int .i64 (K j).a, .int .i64 (X j).k, .int .i64 (X j).n, .string (X j).s, .int .i64 (X j).a][i]? := by
    intro j i hj hi
    have e := pairCells_at K X L j i hj hi
    obtain ⟨y, hy⟩ : ∃ y, [Value.int .i64 (K j).k, .int .i64 (K j).n, .string (K j).s, .int .i64 (K j).a, .int .i64 (X j).k, .int .i64 (X j).n, .string (X j).s, .int .i64 (X j).a][i]? = some y := ⟨_, List.getElem?_eq_getElem (by simpa using hi)⟩
    rw [hy] at e ⊢
    exact owns_cell h e
  have cell : ∀ j i, j < L → i < 8 → w.cell? ⟨slB v, j * 8 + i, none⟩ = [Value.int .i64 (K j).k, .int .i64 (K j).n, .string (K j).s, .int .i64 (K j).a, .int .i64 (X j).k, .int .i64 (X j).n, .string (X j).s, .int .i64 (X j).a][i]? := by
    intro j i hj hi
    obtain ⟨g, cap, rfl, hc⟩ := top j i hj hi
    exact hc
  refine ⟨fun h0 => ?_, fun j hj => ?_, fun j hj => ?_⟩
  · obtain ⟨g, cap, rfl, _⟩ := top 0 0 h0 (by omega)
    rfl
  · rw [Nat.zero_add]
    exact ⟨cell j 0 hj (by omega), cell j 1 hj (by omega), cell j 2 hj (by omega), cell j 3 hj (by omega)⟩
  · rw [Nat.zero_add]
    exact ⟨cell j 4 hj (by omega), cell j 5 hj (by omega), cell j 6 hj (by omega), cell j 7 hj (by omega)⟩

structure OTab (w : World) (base : Nat) (tv : Value) (i : Nat) (PV : Nat → Value) (L : Nat → Nat) (K X : Nat → Nat → V) : Prop where
  own : w.ownsRow base 37 1 tv i ((List.range i).map PV)
  rows : ∀ j, j < i → w.ownsRow base 39 8 (PV j) (L j) (pairCells (K j) (X j) (L j))
  dis : ∀ j k, j < k → k < i → ∀ g, (PV j).ownBlock = some g → (PV k).ownBlock ≠ some g

theorem OTab.nil (w : World) (base : Nat) (PV : Nat → Value) (L : Nat → Nat) (K X : Nat → Nat → V) : OTab w base (.slice none 0 0) 0 PV L K X := ⟨World.ownsRow_nil _ _ _ _, fun _ hj => absurd hj (Nat.not_lt_zero _), fun _ _ _ hk => absurd hk (Nat.not_lt_zero _)⟩
theorem OTab.only {w w' : World} {base : Nat} {tv : Value} {i : Nat} {PV : Nat → Value} {L : Nat → Nat} {K X : Nat → Nat → V} {P : Nat → Prop} (h : OTab w base tv i PV L K X) (ho : Only P w w') (hP : ∀ k, base ≤ k → ¬ P k) : OTab w' base tv i PV L K X :=
  ⟨ho.owns h.own (fun g hg _ => hP g hg), fun j hj => ho.owns (h.rows j hj) (fun g hg _ => hP g hg), h.dis⟩
theorem OTab.below {w w' : World} {base : Nat} {tv : Value} {i : Nat} {PV : Nat → Value} {L : Nat → Nat} {K X : Nat → Nat → V} (h : OTab w base tv i PV L K X) (hb : Below w.heap.size w w') : OTab w' base tv i PV L K X := h.only (Only.below (P := fun _ => False) hb) (fun _ _ h => h)

theorem OTab.onlyB {w w' : World} {base : Nat} {tv : Value} {i : Nat} {PV : Nat → Value} {L : Nat → Nat} {K X : Nat → Nat → V} {P : Nat → Prop} (h : OTab w base tv i PV L K X) (ho : Only P w w') (h1 : ∀ g, tv.ownBlock = some g → ¬ P g) (h2 : ∀ j, j < i → ∀ g, (PV j).ownBlock = some g → ¬ P g) : OTab w' base tv i PV L K X :=
  ⟨ho.ownsB h.own h1, fun j hj => ho.ownsB (h.rows j hj) (h2 j hj), h.dis⟩
theorem OTab.more {w w1 : World} {base : Nat} {tv tv' pv : Value} {i : Nat} {PV : Nat → Value} {L : Nat → Nat} {K X : Nat → Nat → V} (h : OTab w base tv i PV L K X) {l : Nat} {k x : Nat → V} (hp : w.ownsRow base 39 8 pv l (pairCells k x l)) (hd : ∀ j, j < i → ∀ g, (PV j).ownBlock = some g → pv.ownBlock ≠ some g) (o : Obj) (hbz : base ≤ w.heap.size)
    (ho : w1.ownsRow base 37 1 tv' (i + 1) (((List.range i).map PV) ++ [pv])) (hg : (w.alloc o).grownBy w1 tv.ownBlock) :
    OTab w1 base tv' (i + 1) (fun j => if j = i then pv else PV j) (fun j => if j = i then l else L j) (fun j => if j = i then k else K j) (fun j => if j = i then x else X j) ∧ Below base w w1 := by
  have keep : ∀ v n xs, w.ownsRow base 39 8 v n xs → w1.ownsRow base 39 8 v n xs := fun v n xs hr => by
    refine ⟨hr.1, ?_⟩
    rcases hr.2 with h2 | ⟨g, cap, cur, hv, hge, hh, r⟩
    · exact Or.inl h2
    · refine Or.inr ⟨g, cap, cur, hv, hge, ?_, r⟩
      rw [hg.block g (by have := lt_of_block hh; simp; omega) (fun e => ?_), Below.heap_alloc _ _ _ (lt_of_block hh)]
      · exact hh
      · obtain ⟨_, cur', h'⟩ := owns_type h.own e.symm
        rw [hh] at h'
        cases h'
  refine ⟨⟨?_, fun j hj => ?_, fun a b hab hb g hga => ?_⟩, ?_⟩
  · have e : ((List.range (i + 1)).map fun j => if j = i then pv else PV j) = ((List.range i).map PV) ++ [pv] := by
      rw [List.range_succ, List.map_append]
      congr 1
      · apply List.map_congr_left
        intro j hj
        have := List.mem_range.1 hj
        simp [show ¬ j = i by omega]
      · simp
    rw [e]; exact ho
  · by_cases e : j = i
    · subst e; simp only [if_true]; exact keep _ _ _ hp
    · simp only [e, if_false]; exact keep _ _ _ (h.rows j (by omega))
  · simp only [show ¬ a = i by omega, if_false] at hga
    by_cases e : b = i
    · subst e; simp only [if_true]; exact hd a (by omega) g hga
    · simp only [e, if_false]; exact h.dis a b hab (by omega) g hga
  · refine ⟨hg.os, hg.tape, hg.output, by have := hg.size; simp at this; omega, fun k hk => ?_⟩
    rw [hg.block k (by simp; omega) (fun e => ?_), Below.heap_alloc _ _ _ (by omega)]
    have := (owns_type h.own e.symm).1
    omega

theorem OTab.congr {w : World} {base : Nat} {tv : Value} {i : Nat} {PV : Nat → Value} {L L' : Nat → Nat} {K X K' X' : Nat → Nat → V} (h : OTab w base tv i PV L K X) (hL : ∀ j, j < i → L j = L' j) (hK : ∀ j, j < i → ∀ c, c < L' j → K j c = K' j c ∧ X j c = X' j c) : OTab w base tv i PV L' K' X' := by
  refine ⟨h.own, fun j hj => ?_, h.dis⟩
  have := h.rows j hj
  rw [hL j hj, pairCells_congr (fun c hc => hK j hj c hc)] at this
  exact this

theorem OTab.tabs {w : World} {base : Nat} {tv : Value} {i : Nat} {PV : Nat → Value} {L : Nat → Nat} {K X : Nat → Nat → V} (h : OTab w base tv i PV L K X) : tv = .slice (slA tv) i (slC tv) ∧ TabsAt w (slA tv) i (slB tv) 0 (fun j => slA (PV j)) L (fun j => slC (PV j)) (fun j => slB (PV j)) (fun _ => 0) K X := by
  refine ⟨by obtain ⟨oa, oc, rfl, _⟩ := owns_form h.own; rfl, fun h0 => ?_, fun r hr => ?_, fun r hr => (owns_pairs (h.rows r hr)).2⟩
  · obtain ⟨g, cap, rfl, _⟩ := owns_cell h.own (k := 0) (y := PV 0) (by simp [h0])
    rfl
  · obtain ⟨g, cap, rfl, hc⟩ := owns_cell h.own (k := r) (y := PV r) (by simp [hr])
    rw [Nat.zero_add]
    rw [← (owns_pairs (h.rows r hr)).1]
    exact hc

end Go.Proofs.YtgflalfiopnmnaaGreatDoor

namespace Go.Proofs.YtgflalfiopnmnaaGreatDoor
open Go.RowKit Vl

def cL (S : List Nat) (L : Nat → Nat) (i : Nat) : Nat := L (S.getD i 0)
def cK (S : List Nat) (K : Nat → Nat → V) (i : Nat) : Nat → V := K (S.getD i 0)
def cX (S : List Nat) (X : Nat → Nat → V) (i c : Nat) : V := renum S (X (S.getD i 0) c)

def OutB (w : World) (B : Nat) (v : V) (tv : Value) : Prop := w.heap[B]? = some (.cells #[.int .i64 v.k, .int .i64 v.n, .string v.s, .int .i64 v.a, tv] 27 (0, 0))

structure CanW (w wr : World) (u : V) (ta : Option Addr) (n cp : Nat) : Prop where
  graph : OutB wr w.heap.size u (.slice ta n cp)
  res : OutB wr (w.heap.size + 1) zeroV (.slice none 0 0)
  bel : Below w.heap.size w wr
theorem CanW.only {w wr wr' : World} {u : V} {ta : Option Addr} {n cp : Nat} {P : Nat → Prop} (h : CanW w wr u ta n cp) (ho : Only P wr wr') (hP : ∀ k, P k → w.heap.size + 2 ≤ k) : CanW w wr' u ta n cp :=
  ⟨(ho.block _ (blk_lt h.graph) (fun x => by have := hP _ x; omega)).trans h.graph, (ho.block _ (blk_lt h.res) (fun x => by have := hP _ x; omega)).trans h.res, h.bel.trans (ho.toBelow (fun k x => by have := hP k x; omega) h.bel.size)⟩
theorem CanW.below {w wr wr' : World} {u : V} {ta : Option Addr} {n cp : Nat} (h : CanW w wr u ta n cp) (hb : Below wr.heap.size wr wr') : CanW w wr' u ta n cp := h.only (Only.below (P := fun _ => False) hb) (fun _ h => h.elim)

theorem set4_only {w : World} {B i j k l : Nat} {a' b' c' d' : Value} : Only (fun k => k = B) w ((((w.setCell ⟨B, i, none⟩ a').setCell ⟨B, j, none⟩ b').setCell ⟨B, k, none⟩ c').setCell ⟨B, l, none⟩ d') :=
  ((((Only.refl (fun k => k = B) w).set (p := ⟨B, i, none⟩) rfl a').set (p := ⟨B, j, none⟩) rfl b').set (p := ⟨B, k, none⟩) rfl c').set (p := ⟨B, l, none⟩) rfl d'

end Go.Proofs.YtgflalfiopnmnaaGreatDoor

namespace Go.Proofs.YtgflalfiopnmnaaGreatDoor
open Go.RowKit Vl

def CanonIs (w w' : World) (e : Ending) (n : Nat) (u : V) (L : Nat → Nat) (K X : Nat → Nat → V) : Prop :=
  (OkG n u L K X ∧ ∃ (tv : Value) (PV : Nat → Value) (base : Nat), w.heap.size ≤ base ∧ e = .returned (.agg #[.int .i64 (renum (order n u L X) u).k, .int .i64 (renum (order n u L X) u).n, .string (renum (order n u L X) u).s, .int .i64 (renum (order n u L X) u).a, tv]) ∧ OTab w' base tv (order n u L X).length PV (cL (order n u L X) L) (cK (order n u L X) K) (cX (order n u L X) X)) ∨
  (¬ OkG n u L K X ∧ e = .returned (.agg #[.int .i64 0, .int .i64 0, .string ⟨#[]⟩, .int .i64 0, .slice none 0 0]))

end Go.Proofs.YtgflalfiopnmnaaGreatDoor

namespace Go.Proofs.YtgflalfiopnmnaaGreatDoor
open Go.RowKit Vl

theorem seen_keyed : Keyed 139 107 167 ptr IsB (fun a b => a == b) (.agg #[]) where
  und := Tryz.underlying139
  eq := fun u v w hu hv => eq_ptr u v w hu hv 9999
  chk := fun em v w => by kernel_rfl
  now := ⟨_, Tryz.underlying107, fun u v => rfl⟩
  zero := fun w => by kernel_rfl

end Go.Proofs.YtgflalfiopnmnaaGreatDoor


