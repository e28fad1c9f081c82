import Derived.Test.YtgflalfiopnmnaaP3
import Derived.Test.YtgflalfiopnmnaaP4
namespace Go.Proofs.Ytgflalfiopnmnaa.Aw
open Vl

theorem eqV_refl (x : V) : eqV x x = true := eqV_iff.2 rfl

structure E where
  a : V
  b : V
  p : List V

structure Sys where
  tab : V → Bool
  atA : V → V → V
  atB : V → V → V
  kids : V → V → List V
  D : V → V → Bool

def Sys.cp (S : Sys) (e : E) : Bool := S.tab e.a && S.tab e.b
def Sys.part (S : Sys) (e : E) : Bool := !(S.tab e.a && S.tab e.b) && !(eqV e.a e.b)
def Sys.child (S : Sys) (e : E) (k : V) : E := ⟨S.atA e.a k, S.atB e.b k, e.p ++ [k]⟩
def same (c y : E) : Bool := eqV y.a c.a && eqV y.b c.b
def Sys.add (S : Sys) (l : List (E)) (c : E) : List (E) := if S.cp c && l.any (same c) then l else l ++ [c]
def Sys.grow (S : Sys) (l : List (E)) (e : E) : List (E) := (S.kids e.a e.b).foldl (fun l k => S.add l (S.child e k)) l
def Sys.iadd (S : Sys) (l : List (E)) (c : E) : List (E) := if S.cp c && S.D c.a c.b && !(l.any (same c)) then l ++ [c] else l
def Sys.igrow (S : Sys) (l : List (E)) (e : E) : List (E) := (S.kids e.a e.b).foldl (fun l k => S.iadd l (S.child e k)) l

inductive SReach (S : Sys) (r : E) : Nat → List (E) → Prop
  | start : SReach S r 0 [r]
  | plain {i : Nat} {l : List (E)} {e : E} : SReach S r i l → l[i]? = some e → S.cp e = false → S.part e = false → SReach S r (i + 1) l
  | couple {i : Nat} {l : List (E)} {e : E} : SReach S r i l → l[i]? = some e → S.cp e = true → SReach S r (i + 1) (S.grow l e)

def SDone (S : Sys) (r : E) (ans : List V) : Prop := (∃ i l e, SReach S r i l ∧ l[i]? = some e ∧ S.part e = true ∧ ans = e.p) ∨ (∃ i l, SReach S r i l ∧ l.length ≤ i ∧ ans = [])

inductive IReach (S : Sys) (r : E) : Nat → List (E) → Prop
  | start : IReach S r 0 (S.iadd [] r)
  | step {j : Nat} {q : List (E)} {e : E} : IReach S r j q → q[j]? = some e → (∀ k ∈ S.kids e.a e.b, S.part (S.child e k) = false) → IReach S r (j + 1) (S.igrow q e)

def IDone (S : Sys) (r : E) (ans : List V) : Prop :=
  (∃ j q e pre k post, IReach S r j q ∧ q[j]? = some e ∧ S.kids e.a e.b = pre ++ k :: post ∧ (∀ k' ∈ pre, S.part (S.child e k') = false) ∧ S.part (S.child e k) = true ∧ ans = e.p ++ [k]) ∨ (∃ j q, IReach S r j q ∧ q.length ≤ j ∧ ans = [])

theorem IReach.det {S : Sys} {r : E} {j : Nat} {q : List (E)} (h : IReach S r j q) : ∀ {q'}, IReach S r j q' → q = q' := by
  induction h with
  | start => intro q' h'; cases h'; rfl
  | step h1 h2 h3 ih =>
    intro q' h'
    cases h' with
    | step g1 g2 g3 =>
      obtain rfl := ih g1
      rw [h2] at g2
      cases g2
      rfl

theorem IReach.back {S : Sys} {r : E} {j : Nat} {q : List (E)} (h : IReach S r j q) : ∀ i, i < j → ∃ q' e, IReach S r i q' ∧ q'[i]? = some e ∧ (∀ k ∈ S.kids e.a e.b, S.part (S.child e k) = false) := by
  induction h with
  | start => intro i hi; omega
  | @step j q e h1 h2 h3 ih =>
    intro i hi
    by_cases e' : i = j
    · subst e'; exact ⟨q, e, h1, h2, h3⟩
    · exact ih i (by omega)

theorem first_one {P : V → Bool} {pre post pre' post' : List V} {k k' : V} (h : pre ++ k :: post = pre' ++ k' :: post') (h1 : ∀ x ∈ pre, P x = false) (h2 : P k = true) (h3 : ∀ x ∈ pre', P x = false) (h4 : P k' = true) : k = k' := by
  induction pre generalizing pre' with
  | nil =>
    cases pre' with
    | nil => simp at h; exact h.1
    | cons y ys => simp at h; have := h3 y (by simp); rw [← h.1, h2] at this; cases this
  | cons x xs ih =>
    cases pre' with
    | nil => simp at h; have := h1 x (by simp); rw [h.1, h4] at this; cases this
    | cons y ys =>
      simp at h
      exact ih h.2 (fun z hz => h1 z (by simp [hz])) (fun z hz => h3 z (by simp [hz]))

theorem IDone.det {S : Sys} {r : E} {x y : List V} (h : IDone S r x) (g : IDone S r y) : x = y := by
  rcases h with ⟨j, q, e, pre, k, post, h1, h2, h3, h4, h5, rfl⟩ | ⟨j, q, h1, h2, rfl⟩
  · rcases g with ⟨j', q', e', pre', k', post', g1, g2, g3, g4, g5, rfl⟩ | ⟨j', q', g1, g2, rfl⟩
    · have hj : j = j' := by
        rcases Nat.lt_trichotomy j j' with hl | he | hl
        · obtain ⟨q2, e2, b1, b2, b3⟩ := g1.back j hl
          obtain rfl := h1.det b1
          rw [h2] at b2; cases b2
          have := b3 k (by rw [h3]; simp)
          rw [h5] at this; cases this
        · exact he
        · obtain ⟨q2, e2, b1, b2, b3⟩ := h1.back j' hl
          obtain rfl := g1.det b1
          rw [g2] at b2; cases b2
          have := b3 k' (by rw [g3]; simp)
          rw [g5] at this; cases this
      subst hj
      obtain rfl := h1.det g1
      rw [h2] at g2; cases g2
      rw [h3] at g3
      rw [first_one (P := fun k => S.part (S.child e k)) g3 h4 h5 g4 g5]
    · exfalso
      rcases Nat.lt_or_ge j j' with hl | hl
      · obtain ⟨q2, e2, b1, b2, b3⟩ := g1.back j hl
        obtain rfl := h1.det b1
        rw [h2] at b2; cases b2
        have := b3 k (by rw [h3]; simp)
        rw [h5] at this; cases this
      · rcases Nat.lt_or_ge j' j with hl' | hl'
        · obtain ⟨q2, e2, b1, b2, _⟩ := h1.back j' hl'
          obtain rfl := g1.det b1
          rw [List.getElem?_eq_none g2] at b2; cases b2
        · obtain rfl : j = j' := by omega
          obtain rfl := h1.det g1
          rw [List.getElem?_eq_none g2] at h2; cases h2
  · rcases g with ⟨j', q', e', pre', k', post', g1, g2, g3, g4, g5, rfl⟩ | ⟨j', q', g1, g2, rfl⟩
    · exfalso
      rcases Nat.lt_or_ge j' j with hl | hl
      · obtain ⟨q2, e2, b1, b2, b3⟩ := h1.back j' hl
        obtain rfl := g1.det b1
        rw [g2] at b2; cases b2
        have := b3 k' (by rw [g3]; simp)
        rw [g5] at this; cases this
      · rcases Nat.lt_or_ge j j' with hl' | hl'
        · obtain ⟨q2, e2, b1, b2, _⟩ := g1.back j hl'
          obtain rfl := h1.det b1
          rw [List.getElem?_eq_none h2] at b2; cases b2
        · obtain rfl : j = j' := by omega
          obtain rfl := h1.det g1
          rw [List.getElem?_eq_none h2] at g2; cases g2
    · rfl

/-- What holds of the graphs: Good couples lead to good ones; couples of one class part nowhere and lead to such. -/
structure Fits (S : Sys) (G : V → V → Prop) : Prop where
  next : ∀ x y, G x y → S.tab x = true → S.tab y = true → ∀ k ∈ S.kids x y, G (S.atA x k) (S.atB y k)
  alike : ∀ x y, G x y → S.tab x = true → S.tab y = true → S.D x y = false → ∀ k ∈ S.kids x y, (S.tab (S.atA x k) = true ∧ S.tab (S.atB y k) = true ∧ S.D (S.atA x k) (S.atB y k) = false) ∨ (¬ (S.tab (S.atA x k) = true ∧ S.tab (S.atB y k) = true) ∧ S.atA x k = S.atB y k)

def Sys.live (S : Sys) (e : E) : Bool := S.cp e && S.D e.a e.b

theorem any_live {S : Sys} {l : List (E)} {c : E} (hc : S.live c = true) : l.any (same c) = (l.filter S.live).any (same c) := by
  induction l with
  | nil => rfl
  | cons y ys ih =>
    rw [List.any_cons, ih]
    by_cases h : S.live y = true
    · rw [List.filter_cons_of_pos h, List.any_cons]
    · rw [List.filter_cons_of_neg h]
      have : same c y = false := by
        rw [Bool.eq_false_iff]
        intro hs
        simp only [same, Bool.and_eq_true, eqV_iff] at hs
        apply h
        simp only [Sys.live, Sys.cp] at hc ⊢
        rw [hs.1, hs.2]
        exact hc
      rw [this, Bool.false_or]

theorem add_filter {S : Sys} (l : List (E)) (c : E) : (S.add l c).filter S.live = S.iadd (l.filter S.live) c := by
  unfold Sys.add Sys.iadd
  by_cases hl : S.live c = true
  · have hcp : S.cp c = true := by unfold Sys.live at hl; simp at hl; exact hl.1
    have hD : S.D c.a c.b = true := by unfold Sys.live at hl; simp at hl; exact hl.2
    rw [any_live hl, hcp, hD]
    by_cases hm : (l.filter S.live).any (same c) = true
    · simp [hm]
    · simp only [Bool.not_eq_true] at hm
      simp [hm, hl]
  · simp only [Bool.not_eq_true] at hl
    have : (S.cp c && S.D c.a c.b) = false := hl
    rw [this]
    split
    · simp
    · simp [hl]

theorem fold_filter {S : Sys} (e : E) : ∀ (ks : List V) (l : List (E)), (ks.foldl (fun l k => S.add l (S.child e k)) l).filter S.live = ks.foldl (fun l k => S.iadd l (S.child e k)) (l.filter S.live)
  | [], l => rfl
  | k :: ks, l => by
    simp only [List.foldl_cons]
    rw [fold_filter e ks, add_filter]

theorem grow_filter {S : Sys} (l : List (E)) (e : E) : (S.grow l e).filter S.live = S.igrow (l.filter S.live) e := fold_filter e _ l

theorem fold_pre {S : Sys} (e : E) : ∀ (ks : List V) (l : List (E)), ∃ t, ks.foldl (fun l k => S.add l (S.child e k)) l = l ++ t ∧ ∀ c ∈ t, ∃ k ∈ ks, c = S.child e k
  | [], l => ⟨[], by simp, by simp⟩
  | k :: ks, l => by
    simp only [List.foldl_cons]
    obtain ⟨t, h1, h2⟩ := fold_pre e ks (S.add l (S.child e k))
    rw [h1]
    unfold Sys.add
    split
    · exact ⟨t, rfl, fun c hc => by obtain ⟨k', h, h'⟩ := h2 c hc; exact ⟨k', by simp [h], h'⟩⟩
    · refine ⟨S.child e k :: t, by simp, fun c hc => ?_⟩
      rcases List.mem_cons.1 hc with rfl | hc
      · exact ⟨k, by simp, rfl⟩
      · obtain ⟨k', h, h'⟩ := h2 c hc; exact ⟨k', by simp [h], h'⟩

theorem grow_pre {S : Sys} (l : List (E)) (e : E) : ∃ t, S.grow l e = l ++ t ∧ ∀ c ∈ t, ∃ k ∈ S.kids e.a e.b, c = S.child e k := fold_pre e _ l

theorem igrow_dead {S : Sys} {q : List (E)} {e : E} : (∀ k ∈ S.kids e.a e.b, S.live (S.child e k) = false) → S.igrow q e = q := by
  unfold Sys.igrow
  generalize S.kids e.a e.b = ks
  induction ks generalizing q with
  | nil => intro _; rfl
  | cons k ks ih =>
    intro h
    simp only [List.foldl_cons]
    have : S.iadd q (S.child e k) = q := by
      unfold Sys.iadd
      have hk := h k (by simp)
      unfold Sys.live at hk
      rw [hk]
      simp
    rw [this]
    exact ih (fun k' hk' => h k' (by simp [hk']))

/-- Up to where nothing parts: the two lines beside one another. -/
structure Ph1 (S : Sys) (G : V → V → Prop) (r : E) (i : Nat) (l : List (E)) : Prop where
  ex : ∃ j, IReach S r j (l.filter S.live) ∧ ((l.take i).filter S.live).length = j
  calm : ∀ e ∈ l, S.part e = false
  good : ∀ e ∈ l, G e.a e.b

structure Ph2 (S : Sys) (r : E) (i : Nat) (l : List (E)) : Prop where
  ex : ∃ pre e rest, l = pre ++ e :: rest ∧ i ≤ pre.length ∧ (∀ x ∈ pre, S.part x = false) ∧ S.part e = true ∧ IDone S r e.p

theorem take_next {l : List (E)} {i : Nat} {e : E} (h : l[i]? = some e) : l.take (i + 1) = l.take i ++ [e] := by
  rw [List.take_add_one, h]; rfl

theorem at_live {S : Sys} {l : List (E)} {i : Nat} {e : E} (h : l[i]? = some e) (hl : S.live e = true) : (l.filter S.live)[((l.take i).filter S.live).length]? = some e := by
  have e1 : l = l.take i ++ e :: l.drop (i + 1) := by
    have := List.take_append_drop i l
    rw [List.drop_eq_getElem_cons (by have := (List.getElem?_eq_some_iff.1 h).1; exact this)] at this
    rw [(List.getElem?_eq_some_iff.1 h).2] at this
    exact this.symm
  have e2 : l.filter S.live = (l.take i).filter S.live ++ e :: (l.drop (i + 1)).filter S.live := by
    conv => lhs; rw [e1]
    rw [List.filter_append, List.filter_cons_of_pos hl]
  rw [e2]
  simp

theorem split_first {P : V → Bool} : ∀ (ks : List V), (∃ k ∈ ks, P k = true) → ∃ pre k post, ks = pre ++ k :: post ∧ (∀ x ∈ pre, P x = false) ∧ P k = true
  | [], h => by obtain ⟨k, hk, _⟩ := h; cases hk
  | k :: ks, h => by
    by_cases hp : P k = true
    · exact ⟨[], k, ks, rfl, by simp, hp⟩
    · have : ∃ k ∈ ks, P k = true := by
        obtain ⟨x, hx, hxp⟩ := h
        rcases List.mem_cons.1 hx with rfl | hx
        · exact absurd hxp hp
        · exact ⟨x, hx, hxp⟩
      obtain ⟨pre, x, post, h1, h2, h3⟩ := split_first ks this
      exact ⟨k :: pre, x, post, by rw [h1]; rfl, fun y hy => by rcases List.mem_cons.1 hy with rfl | hy; exact (Bool.not_eq_true _).mp hp; exact h2 y hy, h3⟩

/-- Where one of the children parts: it stands behind all that lay ahead. -/
theorem fold_part {S : Sys} {e : E} {l : List (E)} (hl : ∀ x ∈ l, S.part x = false) : ∀ (pre : List V) (k : V) (post : List V), (∀ x ∈ pre, S.part (S.child e x) = false) → S.part (S.child e k) = true → ∃ ps rest, (pre ++ k :: post).foldl (fun l k => S.add l (S.child e k)) l = ps ++ S.child e k :: rest ∧ l.length ≤ ps.length ∧ ∀ x ∈ ps, S.part x = false
  | [], k, post, _, hk => by
    simp only [List.nil_append, List.foldl_cons]
    have : S.add l (S.child e k) = l ++ [S.child e k] := by
      unfold Sys.add
      have : S.cp (S.child e k) = false := by
        unfold Sys.part at hk
        unfold Sys.cp
        simp only [Bool.and_eq_true, Bool.not_eq_true'] at hk
        exact hk.1
      rw [this]; simp
    rw [this]
    obtain ⟨t, h1, _⟩ := fold_pre (S := S) e post (l ++ [S.child e k])
    exact ⟨l, t, by rw [h1]; simp, Nat.le_refl _, hl⟩
  | x :: pre, k, post, hp, hk => by
    simp only [List.cons_append, List.foldl_cons]
    have hl' : ∀ y ∈ S.add l (S.child e x), S.part y = false := by
      intro y hy
      unfold Sys.add at hy
      split at hy
      · exact hl y hy
      · rcases List.mem_append.1 hy with hy | hy
        · exact hl y hy
        · simp at hy; rw [hy]; exact hp x (by simp)
    obtain ⟨ps, rest, h1, h2, h3⟩ := fold_part hl' pre k post (fun y hy => hp y (by simp [hy])) hk
    refine ⟨ps, rest, h1, ?_, h3⟩
    have : l.length ≤ (S.add l (S.child e x)).length := by unfold Sys.add; split <;> simp
    omega

theorem phases {S : Sys} {G : V → V → Prop} (hF : Fits S G) {r : E} (hr : G r.a r.b) (hp : S.part r = false) {i : Nat} {l : List (E)} (h : SReach S r i l) : Ph1 S G r i l ∨ Ph2 S r i l := by
  induction h with
  | start =>
    refine Or.inl ⟨⟨0, ?_, by simp⟩, by simpa using hp, by simpa using hr⟩
    have : ([r] : List (E)).filter S.live = S.iadd [] r := by
      have := add_filter (S := S) [] r
      simpa [Sys.add] using this
    rw [this]
    exact IReach.start
  | @plain i l e h1 h2 h3 h4 ih =>
    rcases ih with ⟨⟨j, hi, hj⟩, hc, hg⟩ | ⟨pre, e', rest, p1, p2, p3, p4, p5⟩
    · refine Or.inl ⟨⟨j, hi, ?_⟩, hc, hg⟩
      rw [take_next h2, List.filter_append]
      have : S.live e = false := by unfold Sys.live; rw [h3]; rfl
      simp [this, hj]
    · refine Or.inr ⟨pre, e', rest, p1, ?_, p3, p4, p5⟩
      rcases Nat.lt_or_ge i pre.length with hl | hl
      · omega
      · obtain rfl : i = pre.length := by omega
        rw [p1] at h2
        simp at h2
        rw [← h2, p4] at h4
        cases h4
  | @couple i l e h1 h2 h3 ih =>
    rcases ih with ⟨⟨j, hi, hj⟩, hc, hg⟩ | ⟨pre, e', rest, p1, p2, p3, p4, p5⟩
    · have he : e ∈ l := List.mem_of_getElem? h2
      have h3' : S.tab e.a = true ∧ S.tab e.b = true := by unfold Sys.cp at h3; simpa using h3
      by_cases hpt : ∃ k ∈ S.kids e.a e.b, S.part (S.child e k) = true
      · obtain ⟨pre, k, post, s1, s2, s3⟩ := split_first (P := fun k => S.part (S.child e k)) _ hpt
        obtain ⟨ps, rest, f1, f2, f3⟩ := fold_part (S := S) (e := e) hc pre k post s2 s3
        have hlive : S.live e = true := by
          unfold Sys.live
          rw [h3, Bool.true_and]
          cases hD : S.D e.a e.b with
          | true => rfl
          | false =>
            exfalso
            rcases hF.alike _ _ (hg e he) h3'.1 h3'.2 hD k (by rw [s1]; simp) with ⟨a1, a2, _⟩ | ⟨_, a2⟩
            · unfold Sys.part Sys.child at s3; simp [a1, a2] at s3
            · unfold Sys.part Sys.child at s3; rw [a2] at s3; simp [eqV_refl] at s3
        have hat := at_live h2 hlive
        rw [hj] at hat
        refine Or.inr ⟨ps, S.child e k, rest, ?_, ?_, f3, s3, Or.inl ⟨j, _, e, pre, k, post, hi, hat, s1, s2, s3, rfl⟩⟩
        · unfold Sys.grow; rw [s1]; exact f1
        · have := (List.getElem?_eq_some_iff.1 h2).1; omega
      · have hno : ∀ k ∈ S.kids e.a e.b, S.part (S.child e k) = false := fun k hk => by
          cases hh : S.part (S.child e k) with
          | false => rfl
          | true => exact absurd ⟨k, hk, hh⟩ hpt
        obtain ⟨t, t1, t2⟩ := grow_pre (S := S) l e
        have hlt := (List.getElem?_eq_some_iff.1 h2).1
        have htk : (S.grow l e).take (i + 1) = l.take i ++ [e] := by
          rw [t1, List.take_append_of_le_length (by omega), take_next h2]
        refine Or.inl ⟨?_, ?_, ?_⟩
        · rw [grow_filter, htk, List.filter_append]
          cases hlive : S.live e with
          | true =>
            have hat := at_live h2 hlive
            rw [hj] at hat
            refine ⟨j + 1, IReach.step hi hat hno, ?_⟩
            simp [hlive, hj]
          | false =>
            have hD : S.D e.a e.b = false := by unfold Sys.live at hlive; rw [h3, Bool.true_and] at hlive; exact hlive
            have : S.igrow (l.filter S.live) e = l.filter S.live := igrow_dead (fun k hk => by
              unfold Sys.live Sys.cp Sys.child
              rcases hF.alike _ _ (hg e he) h3'.1 h3'.2 hD k hk with ⟨_, _, a3⟩ | ⟨a1, _⟩
              · simp [a3]
              · simp only [Bool.and_eq_false_iff]
                left
                rw [← Bool.and_eq_false_iff, Bool.eq_false_iff]
                simpa using a1)
            rw [this]
            exact ⟨j, hi, by simp [hlive, hj]⟩
        · intro x hx
          rw [t1] at hx
          rcases List.mem_append.1 hx with hx | hx
          · exact hc x hx
          · obtain ⟨k, hk, rfl⟩ := t2 x hx; exact hno k hk
        · intro x hx
          rw [t1] at hx
          rcases List.mem_append.1 hx with hx | hx
          · exact hg x hx
          · obtain ⟨k, hk, rfl⟩ := t2 x hx
            exact hF.next _ _ (hg e he) h3'.1 h3'.2 k hk
    · obtain ⟨t, t1, t2⟩ := grow_pre (S := S) l e
      refine Or.inr ⟨pre, e', rest ++ t, by rw [t1, p1]; simp, ?_, p3, p4, p5⟩
      rcases Nat.lt_or_ge i pre.length with hl | hl
      · omega
      · obtain rfl : i = pre.length := by omega
        rw [p1] at h2
        simp at h2
        rw [h2] at p4
        unfold Sys.part at p4
        unfold Sys.cp at h3
        rw [h3] at p4
        cases p4

theorem meet {S : Sys} {G : V → V → Prop} (hF : Fits S G) {r : E} (hr : G r.a r.b) (hp0 : r.p = []) {x y : List V} (h : SDone S r x) (g : IDone S r y) : x = y := by
  refine IDone.det (S := S) (r := r) ?_ g
  by_cases hp : S.part r = true
  · have hz : S.iadd [] r = [] := by
      unfold Sys.iadd
      have : S.cp r = false := by unfold Sys.part at hp; unfold Sys.cp; simp only [Bool.and_eq_true, Bool.not_eq_true'] at hp; exact hp.1
      rw [this]; rfl
    have hI : IDone S r [] := Or.inr ⟨0, _, IReach.start, by rw [hz]; simp, rfl⟩
    have key : ∀ i l, SReach S r i l → i = 0 ∧ l = [r] := by
      intro i l hs
      induction hs with
      | start => exact ⟨rfl, rfl⟩
      | plain _ h2 _ h4 ih => obtain ⟨rfl, rfl⟩ := ih; simp at h2; rw [← h2, hp] at h4; cases h4
      | couple _ h2 h3 ih =>
        obtain ⟨rfl, rfl⟩ := ih
        simp at h2
        rw [← h2] at h3
        unfold Sys.part at hp; unfold Sys.cp at h3; rw [h3] at hp; cases hp
    rcases h with ⟨i, l, e, h1, h2, h3, rfl⟩ | ⟨i, l, h1, h2, rfl⟩
    · obtain ⟨rfl, rfl⟩ := key i l h1
      simp at h2
      rw [← h2, hp0]
      exact hI
    · exact hI
  · have hp' : S.part r = false := (Bool.not_eq_true _).mp hp
    rcases h with ⟨i, l, e, h1, h2, h3, rfl⟩ | ⟨i, l, h1, h2, rfl⟩
    · rcases phases hF hr hp' h1 with ⟨_, hc, _⟩ | ⟨pre, e', rest, p1, p2, p3, p4, p5⟩
      · have := hc e (List.mem_of_getElem? h2); rw [h3] at this; cases this
      · rcases Nat.lt_or_ge i pre.length with hl | hl
        · rw [p1, List.getElem?_append_left hl] at h2
          have := p3 e (List.mem_of_getElem? h2)
          rw [h3] at this; cases this
        · obtain rfl : i = pre.length := by omega
          rw [p1] at h2
          simp at h2
          rw [← h2]
          exact p5
    · rcases phases hF hr hp' h1 with ⟨⟨j, hi, hj⟩, hc, _⟩ | ⟨pre, e', rest, p1, p2, p3, p4, p5⟩
      · refine Or.inr ⟨j, _, hi, ?_, rfl⟩
        rw [List.take_of_length_le h2] at hj
        omega
      · exfalso
        rw [p1] at h2
        simp at h2
        omega

theorem nodup_len : ∀ (N : Nat) (l : List Nat), l.Nodup → (∀ x ∈ l, x < N) → l.length ≤ N
  | 0, l, _, h => by
    cases l with
    | nil => simp
    | cons x xs => have := h x (by simp); omega
  | N + 1, l, hn, h => by
    have h1 := nodup_len N (l.erase N) (hn.erase N) (fun x hx => by
      have h2 := (hn.mem_erase_iff).1 hx
      have := h x h2.2
      have := h2.1
      omega)
    rw [List.length_erase] at h1
    split at h1 <;> omega

/-- A number for each couple. -/
structure Ix (S : Sys) (G : V → V → Prop) (ix : V → V → Nat) (N : Nat) : Prop where
  lt : ∀ x y, G x y → S.tab x = true → S.tab y = true → ix x y < N
  one : ∀ x y x' y', G x y → S.tab x = true → S.tab y = true → G x' y' → S.tab x' = true → S.tab y' = true → ix x y = ix x' y' → x = x' ∧ y = y'

structure Wide (S : Sys) (G : V → V → Prop) (ix : V → V → Nat) (l : List (E)) (i : Nat) : Prop where
  good : ∀ e ∈ l, G e.a e.b
  path : ∀ e ∈ l, e.p.length ≤ i
  once : ((l.filter S.cp).map fun e => ix e.a e.b).Nodup

theorem Wide.add {S : Sys} {G : V → V → Prop} {ix : V → V → Nat} {N : Nat} (hI : Ix S G ix N) {l : List (E)} {i : Nat} (h : Wide S G ix l i) {c : E} (hg : G c.a c.b) (hp : c.p.length ≤ i) : Wide S G ix (S.add l c) i := by
  unfold Sys.add
  split
  · exact h
  · rename_i hm
    refine ⟨fun e he => ?_, fun e he => ?_, ?_⟩
    · rcases List.mem_append.1 he with he | he
      · exact h.good e he
      · simp at he; rw [he]; exact hg
    · rcases List.mem_append.1 he with he | he
      · exact h.path e he
      · simp at he; rw [he]; exact hp
    · rw [List.filter_append]
      cases hc : S.cp c with
      | false => simp [hc, h.once]
      | true =>
        simp only [hc, Bool.true_and] at hm
        have hct : S.tab c.a = true ∧ S.tab c.b = true := by unfold Sys.cp at hc; simpa using hc
        simp only [List.filter_cons, hc, if_true, List.filter_nil, List.map_append, List.map_cons, List.map_nil]
        rw [List.nodup_append]
        refine ⟨h.once, by simp, ?_⟩
        intro a ha b hb e
        simp at hb
        subst hb
        obtain ⟨y, hy, rfl⟩ := List.mem_map.1 ha
        rw [List.mem_filter] at hy
        have hyt : S.tab y.a = true ∧ S.tab y.b = true := by have := hy.2; unfold Sys.cp at this; simpa using this
        obtain ⟨e1, e2⟩ := hI.one _ _ _ _ (h.good y hy.1) hyt.1 hyt.2 hg hct.1 hct.2 e
        apply hm
        rw [List.any_eq_true]
        exact ⟨y, hy.1, by simp [same, eqV_iff, e1, e2]⟩

theorem Wide.more {S : Sys} {G : V → V → Prop} {ix : V → V → Nat} {l : List (E)} {i : Nat} (h : Wide S G ix l i) : Wide S G ix l (i + 1) := ⟨h.good, fun e he => by have := h.path e he; omega, h.once⟩

theorem Wide.fold {S : Sys} {G : V → V → Prop} {ix : V → V → Nat} {N : Nat} (hI : Ix S G ix N) {e : E} {i : Nat} : ∀ (ks : List V) (l : List (E)), Wide S G ix l i → (∀ k ∈ ks, G (S.atA e.a k) (S.atB e.b k)) → e.p.length + 1 ≤ i → Wide S G ix (ks.foldl (fun l k => S.add l (S.child e k)) l) i
  | [], _, h, _, _ => h
  | k :: ks, l, h, hg, hp => by
    simp only [List.foldl_cons]
    exact Wide.fold hI ks _ (h.add hI (hg k (by simp)) (by simp [Sys.child]; omega)) (fun k' hk' => hg k' (by simp [hk'])) hp

theorem fold_len {S : Sys} (e : E) : ∀ (ks : List V) (l : List (E)), (ks.foldl (fun l k => S.add l (S.child e k)) l).length ≤ l.length + ks.length
  | [], l => by simp
  | k :: ks, l => by
    simp only [List.foldl_cons, List.length_cons]
    have h1 := fold_len (S := S) e ks (S.add l (S.child e k))
    have h2 : (S.add l (S.child e k)).length ≤ l.length + 1 := by unfold Sys.add; split <;> simp
    omega

/-- What good couples lead to is good. -/
def Nexts (S : Sys) (G : V → V → Prop) : Prop := ∀ x y, G x y → S.tab x = true → S.tab y = true → ∀ k ∈ S.kids x y, G (S.atA x k) (S.atB y k)

theorem SReach.wide {S : Sys} {G : V → V → Prop} {ix : V → V → Nat} {N K : Nat} (hF : Nexts S G) (hI : Ix S G ix N) (hK : ∀ x y, G x y → S.tab x = true → S.tab y = true → (S.kids x y).length ≤ K) {r : E} (hr : G r.a r.b) (hp0 : r.p = []) {i : Nat} {l : List (E)} (h : SReach S r i l) : Wide S G ix l i ∧ l.length ≤ 1 + K * ((l.take i).filter S.cp).length := by
  induction h with
  | start =>
    refine ⟨⟨by simpa using hr, by simp [hp0], ?_⟩, by simp⟩
    cases hc : S.cp r <;> simp [hc]
  | @plain i l e h1 h2 h3 h4 ih =>
    refine ⟨ih.1.more, ?_⟩
    rw [take_next h2, List.filter_append]
    simp only [List.filter_cons, h3, List.filter_nil]
    simpa using ih.2
  | @couple i l e h1 h2 h3 ih =>
    have he : e ∈ l := List.mem_of_getElem? h2
    have h3' : S.tab e.a = true ∧ S.tab e.b = true := by unfold Sys.cp at h3; simpa using h3
    have hlt := (List.getElem?_eq_some_iff.1 h2).1
    obtain ⟨t, t1, _⟩ := grow_pre (S := S) l e
    have htk : (S.grow l e).take (i + 1) = l.take i ++ [e] := by
      rw [t1, List.take_append_of_le_length (by omega), take_next h2]
    refine ⟨Wide.fold hI _ _ ih.1.more (hF _ _ (ih.1.good e he) h3'.1 h3'.2) (by have := ih.1.path e he; omega), ?_⟩
    rw [htk, List.filter_append]
    have h5 := fold_len (S := S) e (S.kids e.a e.b) l
    have h6 := hK _ _ (ih.1.good e he) h3'.1 h3'.2
    have h7 := ih.2
    simp only [List.filter_cons, h3, if_true, List.filter_nil, List.length_append, List.length_cons, List.length_nil, Nat.mul_add, Nat.zero_add, Nat.mul_one]
    unfold Sys.grow
    omega

theorem Wide.few {S : Sys} {G : V → V → Prop} {ix : V → V → Nat} {N i : Nat} (hI : Ix S G ix N) {l : List (E)} (h : Wide S G ix l i) : (l.filter S.cp).length ≤ N := by
  have := nodup_len N _ h.once (fun x hx => by
    obtain ⟨y, hy, rfl⟩ := List.mem_map.1 hx
    rw [List.mem_filter] at hy
    have hyt : S.tab y.a = true ∧ S.tab y.b = true := by have := hy.2; unfold Sys.cp at this; simpa using this
    exact hI.lt _ _ (h.good y hy.1) hyt.1 hyt.2)
  simpa using this

theorem SReach.len {S : Sys} {G : V → V → Prop} {ix : V → V → Nat} {N K : Nat} (hF : Nexts S G) (hI : Ix S G ix N) (hK : ∀ x y, G x y → S.tab x = true → S.tab y = true → (S.kids x y).length ≤ K) {r : E} (hr : G r.a r.b) (hp0 : r.p = []) {i : Nat} {l : List (E)} (h : SReach S r i l) : l.length ≤ 1 + K * N := by
  obtain ⟨h1, h2⟩ := h.wide hF hI hK hr hp0
  have h3 := h1.few hI
  have h4 : ((l.take i).filter S.cp).length ≤ (l.filter S.cp).length := ((List.take_sublist i l).filter _).length_le
  have : K * ((l.take i).filter S.cp).length ≤ K * N := Nat.mul_le_mul_left _ (by omega)
  omega

theorem iadd_eq {S : Sys} (q : List (E)) (c : E) : S.iadd q c = q ∨ (S.iadd q c = S.add q c ∧ S.live c = true) := by
  unfold Sys.iadd Sys.add
  by_cases hl : S.live c = true
  · have hcp : S.cp c = true := by unfold Sys.live at hl; simp at hl; exact hl.1
    have hD : S.D c.a c.b = true := by unfold Sys.live at hl; simp at hl; exact hl.2
    rw [hcp, hD]
    cases q.any (same c) <;> simp [hl]
  · have : (S.cp c && S.D c.a c.b) = false := (Bool.not_eq_true _).mp hl
    rw [this]; simp

structure IWide (S : Sys) (G : V → V → Prop) (ix : V → V → Nat) (q : List (E)) (i : Nat) : Prop where
  wide : Wide S G ix q i
  live : ∀ e ∈ q, S.live e = true

theorem IWide.add {S : Sys} {G : V → V → Prop} {ix : V → V → Nat} {N : Nat} (hI : Ix S G ix N) {q : List (E)} {i : Nat} (h : IWide S G ix q i) {c : E} (hg : G c.a c.b) (hp : c.p.length ≤ i) : IWide S G ix (S.iadd q c) i := by
  rcases iadd_eq (S := S) q c with e | ⟨e, hl⟩
  · rw [e]; exact h
  · rw [e]
    refine ⟨h.wide.add hI hg hp, fun x hx => ?_⟩
    unfold Sys.add at hx
    split at hx
    · exact h.live x hx
    · rcases List.mem_append.1 hx with hx | hx
      · exact h.live x hx
      · simp at hx; rw [hx]; exact hl

theorem IWide.fold {S : Sys} {G : V → V → Prop} {ix : V → V → Nat} {N : Nat} (hI : Ix S G ix N) {e : E} {i : Nat} : ∀ (ks : List V) (q : List (E)), IWide S G ix q i → (∀ k ∈ ks, G (S.atA e.a k) (S.atB e.b k)) → e.p.length + 1 ≤ i → IWide S G ix (ks.foldl (fun l k => S.iadd l (S.child e k)) q) i
  | [], _, h, _, _ => h
  | k :: ks, q, h, hg, hp => by
    simp only [List.foldl_cons]
    exact IWide.fold hI ks _ (h.add hI (hg k (by simp)) (by simp [Sys.child]; omega)) (fun k' hk' => hg k' (by simp [hk'])) hp

theorem IReach.wide {S : Sys} {G : V → V → Prop} {ix : V → V → Nat} {N : Nat} (hF : Nexts S G) (hI : Ix S G ix N) {r : E} (hr : G r.a r.b) (hp0 : r.p = []) {j : Nat} {q : List (E)} (h : IReach S r j q) : IWide S G ix q j := by
  induction h with
  | start => exact IWide.add hI ⟨⟨by simp, by simp, by simp⟩, by simp⟩ hr (by simp [hp0])
  | @step j q e h1 h2 h3 ih =>
    have he : e ∈ q := List.mem_of_getElem? h2
    have hl := ih.live e he
    have h3' : S.tab e.a = true ∧ S.tab e.b = true := by unfold Sys.live Sys.cp at hl; simp at hl; exact hl.1
    exact IWide.fold hI _ _ ⟨ih.wide.more, ih.live⟩ (hF _ _ (ih.wide.good e he) h3'.1 h3'.2) (by have := ih.wide.path e he; omega)

theorem IWide.len {S : Sys} {G : V → V → Prop} {ix : V → V → Nat} {N i : Nat} (hI : Ix S G ix N) {q : List (E)} (h : IWide S G ix q i) : q.length ≤ N := by
  have h1 := h.wide.few hI
  have : q.filter S.cp = q := List.filter_eq_self.2 (fun e he => by have := h.live e he; unfold Sys.live at this; simp at this; exact this.1)
  rw [this] at h1
  exact h1

end Go.Proofs.Ytgflalfiopnmnaa.Aw

namespace Go.Proofs.Ytgflalfiopnmnaa
open Go Vl

theorem bl_trans : ∀ x y z : List UInt8, Op.bytesLess x y = true → Op.bytesLess y z = true → Op.bytesLess x z = true
  | [], [], _, h, _ => by simp [Op.bytesLess] at h
  | [], _ :: _, [], _, h => by simp [Op.bytesLess] at h
  | [], _ :: _, _ :: _, _, _ => by simp [Op.bytesLess]
  | _ :: _, [], _, h, _ => by simp [Op.bytesLess] at h
  | _ :: _, _ :: _, [], _, h => by simp [Op.bytesLess] at h
  | a :: x, b :: y, c :: z, h, k => by
    simp only [Op.bytesLess, Bool.or_eq_true, decide_eq_true_eq, Bool.and_eq_true, beq_iff_eq] at h k ⊢
    rcases h with h | ⟨rfl, h⟩
    · rcases k with k | ⟨rfl, _⟩
      · exact Or.inl (UInt8.lt_trans h k)
      · exact Or.inl h
    · rcases k with k | ⟨rfl, k⟩
      · exact Or.inl k
      · exact Or.inr ⟨rfl, bl_trans x y z h k⟩
theorem bl_ntrans {x y z : List UInt8} (h : Op.bytesLess x y = false) (k : Op.bytesLess y z = false) : Op.bytesLess x z = false := by
  cases hz : Op.bytesLess x z
  · rfl
  · exfalso
    have ht := bl_total x y
    rw [h] at ht
    by_cases e : x = y
    · subst e; rw [hz] at k; cases k
    · have : (x == y) = false := by simpa using e
      rw [this] at ht
      have hyx : Op.bytesLess y x = true := by rw [← ht]; rfl
      have := bl_trans y x z hyx hz
      rw [this] at k
      cases k

theorem le_trans {a b c : V} (h : less b a = false) (k : less c b = false) : less c a = false := by
  unfold less at *
  by_cases h1 : b.k = a.k
  · rw [if_pos h1] at h
    by_cases h2 : c.k = b.k
    · rw [if_pos h2] at k
      rw [if_pos (h2.trans h1)]
      by_cases h3 : b.k = 3
      · rw [if_pos h3] at h
        rw [if_pos (by omega)] at k ⊢
        exact bl_ntrans k h
      · rw [if_neg h3] at h
        rw [if_neg (by omega)] at k ⊢
        simp at h k ⊢
        omega
    · rw [if_neg h2] at k
      rw [if_neg (by omega)]
      simp at k ⊢
      omega
  · rw [if_neg h1] at h
    by_cases h2 : c.k = b.k
    · rw [if_neg (by omega)]
      simp at h ⊢
      omega
    · rw [if_neg h2] at k
      simp at h k
      by_cases h3 : c.k = a.k
      · omega
      · rw [if_neg h3]
        simp
        omega

/-- Two keys, neither of which comes ahead, are one. -/
theorem key_one {a b : V} (ha : isK a = true) (hb : isK b = true) (h : less a b = false) (k : less b a = false) : a = b := by
  have hk : ko a b = 0 := by unfold ko; simp [ha, hb, h, k]
  have h2 : ko a b ≠ 2 := by omega
  have := ko_zero h2
  rw [hk] at this
  exact eqV_iff.1 (by rw [← this]; rfl)

/-- Places in the order of their keys. -/
def SortW (K : Nat → V) (ls : List Nat) : Prop := ls.Pairwise fun a b => less (K b) (K a) = false

theorem SortW.ins {K : Nat → V} {A B : List Nat} {x : Nat} (h : SortW K (A ++ B)) (hB : ∀ y ∈ B, less (K x) (K y) = true) (hA : ∀ y, A.getLast? = some y → less (K x) (K y) = false) : SortW K (A ++ x :: B) := by
  obtain ⟨h1, h2, h3⟩ := List.pairwise_append.1 h
  refine List.pairwise_append.2 ⟨h1, List.pairwise_cons.2 ⟨fun y hy => less_asymm (hB y hy), h2⟩, fun a ha b hb => ?_⟩
  rcases List.mem_cons.1 hb with rfl | hb
  · obtain ⟨A', y, rfl⟩ : ∃ A' y, A = A' ++ [y] := by
      rcases List.eq_nil_or_concat A with rfl | ⟨A', y, rfl⟩
      · cases ha
      · exact ⟨A', y, by simp⟩
    have hl := hA y (by simp)
    rcases List.mem_append.1 ha with ha' | ha'
    · exact le_trans ((List.pairwise_append.1 h1).2.2 a ha' y (by simp)) hl
    · simp at ha'; subst ha'; exact hl
  · exact h3 a ha b hb

/-- Sorted places of keys that are each once are one row. -/
theorem sort_one {K : Nat → V} : ∀ {ls ms : List Nat}, (∀ a ∈ ls, ∀ b ∈ ls, less (K a) (K b) = false → less (K b) (K a) = false → a = b) → ls.Perm ms → SortW K ls → SortW K ms → ls = ms
  | [], ms, _, hp, _, _ => by
    have := hp.length_eq
    cases ms with
    | nil => rfl
    | cons => simp at this
  | a :: ls, [], _, hp, _, _ => by have := hp.length_eq; simp at this
  | a :: ls, b :: ms, hd, hp, h1, h2 => by
    obtain ⟨p1, p2⟩ := List.pairwise_cons.1 h1
    obtain ⟨q1, q2⟩ := List.pairwise_cons.1 h2
    have e : a = b := by
      by_cases e : a = b
      · exact e
      · have ha : a ∈ ms := by
          have : a ∈ b :: ms := hp.subset (by simp)
          rcases List.mem_cons.1 this with h | h
          · exact absurd h e
          · exact h
        have hb : b ∈ ls := by
          have : b ∈ a :: ls := hp.symm.subset (by simp)
          rcases List.mem_cons.1 this with h | h
          · exact absurd h.symm e
          · exact h
        exact hd a (by simp) b (by simp [hb]) (q1 a ha) (p1 b hb)
    subst e
    rw [sort_one (fun x hx y hy => hd x (by simp [hx]) y (by simp [hy])) (List.Perm.cons_inv hp) p2 q2]

/-- The places of a table's pairs in the order of their keys. -/
structure SortI (K : Nat → V) (L : Nat) (ls : List Nat) : Prop where
  perm : ls.Perm (List.range L)
  sort : SortW K ls
theorem SortI.len {K : Nat → V} {L : Nat} {ls : List Nat} (h : SortI K L ls) : ls.length = L := by rw [h.perm.length_eq]; simp
theorem SortI.lt {K : Nat → V} {L : Nat} {ls : List Nat} (h : SortI K L ls) {i : Nat} (hi : i < L) : ls.getD i 0 < L := by
  rw [List.getD_eq_getElem?_getD, List.getElem?_eq_getElem (by rw [h.len]; exact hi)]
  exact List.mem_range.1 (h.perm.subset (List.getElem_mem _))
theorem SortI.one {n : Nat} {K X : Nat → V} {L : Nat} {ls ms : List Nat} (hk : OkT n L K X) (h : SortI K L ls) (k : SortI K L ms) : ls = ms := by
  refine sort_one (K := K) (fun a ha b hb h1 h2 => ?_) (h.perm.trans k.perm.symm) h.sort k.sort
  have la := List.mem_range.1 (h.perm.subset ha)
  have lb := List.mem_range.1 (h.perm.subset hb)
  have e := key_one (hk.all a la).key (hk.all b lb).key h1 h2
  rcases Nat.lt_trichotomy a b with h' | h' | h'
  · have := (hk.all b lb).once a h'
    rw [e] at this
    simp [eqV] at this
  · exact h'
  · have := (hk.all a la).once b h'
    rw [e] at this
    simp [eqV] at this

end Go.Proofs.Ytgflalfiopnmnaa

namespace Go.Proofs.Ytgflalfiopnmnaa
open Go.RowKit Vl

/-- Tables of their own: none lies ahead of base, and no two have one order. -/
structure Ap (w : World) (base n : Nat) (T M : Nat → Nat) : Prop where
  lo : ∀ j, j < n → base ≤ T j
  own : ∀ j a o g, j < n → TabB w (T j) (M j) a o → o.ownBlock = some g → base ≤ g
  one : ∀ i j a o a' o' g, i < n → j < n → TabB w (T i) (M i) a o → TabB w (T j) (M j) a' o' → o.ownBlock = some g → o'.ownBlock = some g → i = j
  mlo : ∀ j, j < n → base ≤ M j
  mone : ∀ i j, i < n → j < n → M i = M j → i = j

theorem Ap.zero (w : World) (base : Nat) (T M : Nat → Nat) : Ap w base 0 T M :=
  ⟨fun _ hj => absurd hj (Nat.not_lt_zero _), fun _ _ _ _ hj => absurd hj (Nat.not_lt_zero _), fun _ _ _ _ _ _ _ hi => absurd hi (Nat.not_lt_zero _), fun _ hj => absurd hj (Nat.not_lt_zero _), fun _ _ hi => absurd hi (Nat.not_lt_zero _)⟩
theorem Ap.same {w w' : World} {base n : Nat} {T M : Nat → Nat} (h : Ap w base n T M) (hs : ∀ j, j < n → w'.heap[T j]? = w.heap[T j]?) : Ap w' base n T M := by
  have e : ∀ j a o, j < n → TabB w' (T j) (M j) a o → TabB w (T j) (M j) a o := fun j a o hj h' => (hs j hj).symm.trans h'
  exact ⟨h.lo, fun j a o g hj ht hg => h.own j a o g hj (e j a o hj ht) hg, fun i j a o a' o' g hi hj h1 h2 => h.one i j a o a' o' g hi hj (e i a o hi h1) (e j a' o' hj h2), h.mlo, h.mone⟩
theorem TabB.ord {w : World} {T M M' : Nat} {i i' : Int} {o o' : Value} (h : TabB w T M i o) (h' : TabB w T M' i' o') : o = o' := by
  unfold TabB at h h'
  rw [h] at h'
  simp only [Option.some.injEq, Obj.cells.injEq, Array.mk.injEq, List.cons.injEq] at h'
  exact h'.1.2.2.1
theorem Ap.half {w w' : World} {b n r : Nat} {base L : Nat → Nat} {K X : Nat → Nat → V} (h : Ap w b r (tT b) (tM b)) (H : Half w b n r base L K X) (hb : Below w.heap.size w w') : Ap w' b r (tT b) (tM b) :=
  h.same (fun j hj => by
    obtain ⟨ord, h1, _⟩ := (H.full j hj).1.tab
    exact hb.block _ (blk_lt h1))
theorem Ap.fill {w w' : World} {b n r : Nat} {base L : Nat → Nat} {K X : Nat → Nat → V} (h : Ap w b r (tT b) (tM b)) (H : Half w b n r base L K X) (hr : r < n) (ho : Only (fun k => k = tT b r ∨ k = tM b r) w w') (hf : Filled w' (tT b r) (tM b r) w.heap.size r (tT b) (K r) (X r) (L r)) : Ap w' b (r + 1) (tT b) (tM b) := by
  have hs := H.size
  have old : ∀ j a o, j < r → TabB w' (tT b j) (tM b j) a o → TabB w (tT b j) (tM b j) a o := fun j a o hj h' => by
    obtain ⟨ord, h1, _⟩ := (H.full j hj).1.tab
    exact (ho.block _ (blk_lt h1) (by unfold tT tM; omega)).symm.trans h'
  have small : ∀ j a o g, j < r → TabB w' (tT b j) (tM b j) a o → o.ownBlock = some g → g < w.heap.size := fun j a o g hj h' hg => by
    obtain ⟨ord, h1, h2⟩ := (H.full j hj).1.tab
    have e := h1.ord (old j a o hj h')
    subst e
    obtain ⟨_, _, _, hk⟩ := owns_form h2
    exact (hk g hg).2
  have big : ∀ a o g, TabB w' (tT b r) (tM b r) a o → o.ownBlock = some g → w.heap.size ≤ g := fun a o g h' hg => by
    obtain ⟨ord, h1, h2⟩ := hf.tab
    have e := h1.ord h'
    subst e
    obtain ⟨_, _, _, hk⟩ := owns_form h2
    exact (hk g hg).1
  refine ⟨fun j _ => by unfold tT; omega, fun j a o g hj ht hg => ?_, fun i j a o a' o' g hi hj h1 h2 g1 g2 => ?_, fun j _ => by unfold tM; omega, fun i j _ _ e => by unfold tM at e; omega⟩
  · by_cases e : j = r
    · subst e; have := big a o g ht hg; omega
    · exact h.own j a o g (by omega) (old j a o (by omega) ht) hg
  · by_cases e : i = r
    · by_cases e' : j = r
      · omega
      · subst e
        have := big a o g h1 g1
        have := small j a' o' g (by omega) h2 g2
        omega
    · by_cases e' : j = r
      · subst e'
        have := big a' o' g h2 g2
        have := small i a o g (by omega) h1 g1
        omega
      · exact h.one i j a o a' o' g (by omega) (by omega) (old i a o (by omega) h1) (old j a' o' (by omega) h2) g1 g2

set_option maxHeartbeats 2000000 in
set_option maxRecDepth 100000 in
/-- 'link': the tables that it makes share no order. -/
theorem link_apart (u : V) (ta : Option Addr) (n cp TB TO : Nat) (A : Nat → Option Addr) (L C RB RO : Nat → Nat) (K X : Nat → Nat → V) (w : World) (hn : n ≤ 1048576)
    (HS : Hid (Small 1048576 n L K X)) (HT : Hid (TabsAt w ta n TB TO A L C RB RO K X)) :
    Calls Try.prog 52 #[.agg #[.int .i64 u.k, .int .i64 u.n, .string u.s, .int .i64 u.a, .slice ta n cp]] w fun e w' =>
      ((OkG n u L K X ∧ e = .returned (.tuple #[.agg #[ifv (tT w.heap.size) u, .slice (some ⟨w.heap.size + 2, 0, none⟩) n n], .bool true]) ∧ (∃ base, Half w' w.heap.size n n base L K X) ∧ Ap w' w.heap.size n (tT w.heap.size) (tM w.heap.size)) ∨ (¬ OkG n u L K X ∧ e = .returned (.tuple #[.agg #[.nilIface, .slice none 0 0], .bool false]))) ∧ Below w.heap.size w w' := by
  obtain ⟨b, hb⟩ : ∃ b, w.heap.size = b := ⟨_, rfl⟩
  have A2 : Hid _ := alloc2 w (.cells #[.int .i64 u.k, .int .i64 u.n, .string u.s, .int .i64 u.a, .slice ta n cp] 27) (.cells #[.nilIface, .slice none 0 0] 106)
  obtain ⟨wa, hwa⟩ : ∃ wa, wa = (w.alloc (.cells #[.int .i64 u.k, .int .i64 u.n, .string u.s, .int .i64 u.a, .slice ta n cp] 27)).alloc (.cells #[.nilIface, .slice none 0 0] 106) := ⟨_, rfl⟩
  have HA : Hid (Ahead w wa #[.int .i64 u.k, .int .i64 u.n, .string u.s, .int .i64 u.a, .slice ta n cp]) := by rw [hwa]; exact ⟨A2.out.1, A2.out.2.1, A2.out.2.2.2⟩
  have hsa : Hid (wa.heap.size = w.heap.size + 2) := by rw [hwa]; exact A2.out.2.2.1
  clear A2
  obtain ⟨g0, g1, g2, g3, g4, _⟩ := cells5 HA.out.graph
  by_cases h200 : n ≤ 200
  · have hmk := run_make_n 58 63 _ 1 8 Try.underlying58 Try.info63 n (by omega) (by omega)
    simp only [Nat.mul_one] at hmk
    have hmm := @run_makeMap Try.prog
    go_enter Try.func52, Try.ntmps52
    go_wp2
    rw [← hwa]
    have hsa' : wa.heap.size = b + 2 := by have := hsa.out; omega
    have HA1 : Hid (Ahead w (wa.alloc (.cells (madeCells #[.pointer none] n) 63)) #[.int .i64 u.k, .int .i64 u.n, .string u.s, .int .i64 u.a, .slice ta n cp]) := by
      have h := HA.out
      exact ⟨(Below.heap_alloc _ _ _ (blk_lt h.graph)).trans h.graph, (Below.heap_alloc _ _ _ (blk_lt h.res)).trans h.res, h.bel.alloc h.bel.size _⟩
    have HL1 : Hid (Laid (wa.alloc (.cells (madeCells #[.pointer none] n) 63)) b n 0) := by
      refine ⟨?_, fun j hj => by omega, by simp; omega⟩
      rw [← hsa']
      exact (row_made wa #[.pointer none] n 63).congr (fun i _ => by rw [if_neg (by omega)]; simp [Nat.mod_one])
    clear hmk hwa g0 g1 g2 g3 g4 hsa' hsa HA
    go_loopw [21] (fun ii wr => ∃ c : Nat, c ≤ n ∧ ii = .int .i64 c ∧ Hid (Laid wr b n c) ∧ Hid (Ahead w wr #[.int .i64 u.k, .int .i64 u.n, .string u.s, .int .i64 u.a, .slice ta n cp])) (fun ii _ => n - (intOf ii).toNat)
    case atStart => exact ⟨0, Nat.zero_le _, rfl, HL1, HA1⟩
    case round =>
      obtain ⟨c, hc, rfl, HL, HAr⟩ := hrel
      clear HL1 HA1
      by_cases hlt : c < n
      · have hs := HL.out.size
        have c0 : ∀ o1 o2, ((wr.alloc o1).alloc o2).cell? ⟨b + 1 + 1, c, none⟩ = some (.pointer none) := fun o1 o2 => by
          have := ((HL.out.row.alloc o1).alloc o2).cell hlt
          rw [if_neg (by omega)] at this
          exact this
        have z0 : ∀ o1 o2 j, ((wr.alloc o1).alloc o2).frozen? ⟨b + 1 + 1, j, none⟩ = false := fun o1 o2 => ((HL.out.row.alloc o1).alloc o2).frozen
        have HN := HL.out.next hlt
        have HA2 : Hid (Ahead w (((wr.alloc (.map #[] 0)).alloc (.cells #[.int .i64 c, .map (some (tM b c)), .slice none 0 0] 66)).setCell ⟨b + 2, c, none⟩ (.pointer (some ⟨tT b c, 0, none⟩))) #[.int .i64 u.k, .int .i64 u.n, .string u.s, .int .i64 u.a, .slice ta n cp]) := by
          have h := HAr.out
          have A := alloc2 wr (.map #[] 0) (.cells #[.int .i64 c, .map (some (tM b c)), .slice none 0 0] 66)
          refine ⟨?_, ?_, ?_⟩
          · rw [Below.heap_setCell _ _ _ _ (show w.heap.size ≠ b + 2 by omega), A.2.2.2.block _ (blk_lt h.graph)]; exact h.graph
          · rw [Below.heap_setCell _ _ _ _ (show w.heap.size + 1 ≠ b + 2 by omega), A.2.2.2.block _ (blk_lt h.res)]; exact h.res
          · exact (grw h.bel A.2.2.2).setCell (by show w.heap.size ≤ b + 2; omega) _
        have HN2 : Hid (Laid (((wr.alloc (.map #[] 0)).alloc (.cells #[.int .i64 c, .map (some (tM b c)), .slice none 0 0] 66)).setCell ⟨b + 2, c, none⟩ (.pointer (some ⟨tT b c, 0, none⟩))) b n (c + 1)) := HN
        clear HN HL HAr
        go_wp2
        go_roundw
        case rel =>
          have e : b + 3 + 2 * c + 1 = b + 4 + 2 * c := by omega
          rw [e]
          exact ⟨c + 1, by omega, by go_num, HN2, HA2⟩
        case measure => simp [intOf]; omega
      · obtain rfl : c = n := by omega
        have HH : Hid (Half wr b c 0 (fun _ => 0) L K X) := HL.out.half
        obtain ⟨g0, g1, g2, g3, g4, _⟩ := cells5 HAr.out.graph
        rw [hb] at g0 g1 g2 g3 g4
        clear HL hmm
        go_wp2
        clear g0 g1 g2 g3 g4
        obtain ⟨wh, hwh⟩ : ∃ wh, wh = wr := ⟨_, rfl⟩
        rw [← hwh] at HH HAr
        go_loopw [35] (fun ii wr => ∃ (r : Nat) (base : Nat → Nat), r ≤ c ∧ ii = .int .i64 r ∧ Hid (Half wr b c r base L K X) ∧ Hid (∀ q, q < r → OkT c (L q) (K q) (X q)) ∧ Hid (Ahead w wr #[.int .i64 u.k, .int .i64 u.n, .string u.s, .int .i64 u.a, .slice ta c cp]) ∧ Hid (Ap wr b r (tT b) (tM b))) (fun ii _ => c - (intOf ii).toNat)
        case atStart => rw [← hwh]; exact ⟨0, _, Nat.zero_le _, rfl, HH, fun q hq => absurd hq (Nat.not_lt_zero _), HAr, Ap.zero _ _ _ _⟩
        case round =>
          obtain ⟨r, base, hr, rfl, HHr, HQ, HAr2, HPr⟩ := hrel
          clear HH HAr hwh
          by_cases hlt : r < c
          · obtain rfl := HT.out.top (by omega)
            have HTr : Hid (TabsAt wr (some ⟨TB, TO, none⟩) c TB TO A L C RB RO K X) := HT.out.below HAr2.out.bel
            have t0 := HTr.out.tab r hlt
            obtain ⟨wv, hwv⟩ : ∃ wv, wv = wr.alloc (.cells #[.slice (A r) (L r) (C r)] 73) := ⟨_, rfl⟩
            have HBv : Hid (Below wr.heap.size wr wv) := by rw [hwv]; exact (Below.refl _ _).alloc (Nat.le_refl _) _
            have HHv : Hid (Half wv b c r base L K X) := HHr.out.below HBv.out
            have hbv : b + 3 + 2 * c ≤ wr.heap.size := HHr.out.size
            have HPv : Hid (Ap wv b r (tT b) (tM b)) := HPr.out.half HHr.out HBv.out
            have HAv : Hid (Ahead w wv #[.int .i64 u.k, .int .i64 u.n, .string u.s, .int .i64 u.a, .slice (some ⟨TB, TO, none⟩) c cp]) := by
              have h := HAr2.out
              exact ⟨(HBv.out.block _ (blk_lt h.graph)).trans h.graph, (HBv.out.block _ (blk_lt h.res)).trans h.res, grw h.bel HBv.out⟩
            have v0 : wv.cell? ⟨wr.heap.size, 0, none⟩ = some (.slice (A r) (L r) (C r)) := by rw [hwv]; exact (one_at (heap_alloc_new wr (.cells #[.slice (A r) (L r) (C r)] 73))).1
            have p0 : wv.cell? ⟨b + 1 + 1, r, none⟩ = some (.pointer (some ⟨b + 4 + 2 * r, 0, none⟩)) := HHv.out.row.cell hlt
            have hfill := fill_any (b + 4 + 2 * r) (b + 3 + 2 * r) r (A r) (L r) (C r) (RB r) (RO r) (K r) (X r) (some ⟨b + 1 + 1, 0, none⟩) (b + 2) c c (tT b) wv.drew (HS.out r hlt).1
              (HHv.out.empty r (Nat.le_refl _) hlt).1 (HHv.out.empty r (Nat.le_refl _) hlt).2 ((HTr.out.below HBv.out.drew).row r hlt) (HHv.out.tabs.below ((Below.refl _ _).drew)) (by omega)
              (show _ → _ from fun h => by have := World.block_lt_of_cell? _ _ ((HT.out.row r hlt).key 0 h).1; simp only at this; omega)
              (show _ → _ from fun _ => by omega) (show ∀ j, _ from fun j hj => by constructor <;> (try unfold tT) <;> (try intro) <;> omega)
            obtain ⟨vb, hvb⟩ : ∃ vb, wr.heap.size = vb := ⟨_, rfl⟩
            rw [hvb] at v0 hbv
            go_wp2
            rw [← hwv]
            clear hwv hvb t0
            have p0d : wv.drew.cell? ⟨b + 1 + 1, r, none⟩ = some (.pointer (some ⟨b + 4 + 2 * r, 0, none⟩)) := p0
            have v0d : wv.drew.cell? ⟨vb, 0, none⟩ = some (.slice (A r) (L r) (C r)) := v0
            have hn1 : ¬ (b + 1 + 1 = b + 4 + 2 * r ∨ b + 1 + 1 = b + 3 + 2 * r) := by omega
            have hn2 : ¬ (vb = b + 4 + 2 * r ∨ vb = b + 3 + 2 * r) := by omega
            go_region_held3 (fun w' => w'.cell? ⟨b + 1 + 1, r, none⟩ = some (.pointer (some ⟨b + 4 + 2 * r, 0, none⟩)) ∧ w'.cell? ⟨vb, 0, none⟩ = some (.slice (A r) (L r) (C r)))
              (first | with_reducible exact S3.out | exact ⟨p0, v0⟩)
              ((go_at_call 86; refine hfill.mono ?_; rintro e w3 ⟨⟨bb, rfl, hbb⟩, hO3, hF3⟩; have S3 : Hid (w3.cell? ⟨b + 1 + 1, r, none⟩ = some (.pointer (some ⟨b + 4 + 2 * r, 0, none⟩)) ∧ w3.cell? ⟨vb, 0, none⟩ = some (.slice (A r) (L r) (C r))) := show _ ∧ _ from ⟨hO3.cell (p := ⟨b + 1 + 1, r, none⟩) p0d hn1, hO3.cell (p := ⟨vb, 0, none⟩) v0d hn2⟩))
            clear hfill p0 v0 p0d v0d S3 hn1 hn2
            have HA3 : Hid (Ahead w w3 #[.int .i64 u.k, .int .i64 u.n, .string u.s, .int .i64 u.a, .slice (some ⟨TB, TO, none⟩) c cp]) := (show Ahead w wv.drew _ from HAv.out.below ((Below.refl _ _).drew)).only hO3 (fun k h => by omega)
            cases bb
            · have HN : Hid (¬ OkG c u L K X) := show ¬ OkG c u L K X from fun h => by have := hbb.2 (h.all r hlt); cases this
              clear hF3 hbb hO3
              have R0 : Hid (w3.heap[b + 1]? = some (.cells #[.nilIface, .slice none 0 0] 106 (0, 0))) := by rw [← hb]; exact HA3.out.res
              obtain ⟨r0, r1, rz⟩ := two_at R0.out
              go_wp2
              have R1 := two_put R0.out .nilIface (.slice none 0 0)
              obtain ⟨q0, q1, _⟩ := two_at R1
              refine bodyPost_ret (v := .tuple #[.agg #[.nilIface, .slice none 0 0], .bool false]) (by simp [results, Try.results52, go_sem, q0, q1]) rfl ⟨Or.inr ⟨HN.out, rfl⟩, ?_⟩
              exact (HA3.out.bel.setCell (by show w.heap.size ≤ b + 1; omega) _).setCell (by show w.heap.size ≤ b + 1; omega) _
            · have HF : Hid (Filled w3 (tT b r) (tM b r) wv.heap.size r (tT b) (K r) (X r) (L r)) := hF3 (hbb.1 rfl)
              have HH3 : Hid (Half w3 b c (r + 1) (fun j => if j = r then wv.heap.size else base j) L K X) := HHv.out.fill hlt (show Only _ wv w3 from ⟨hO3.os, hO3.tape, hO3.output, hO3.size, hO3.block⟩) HF.out
              have HQ3 : Hid (∀ q, q < r + 1 → OkT c (L q) (K q) (X q)) := show ∀ q, q < r + 1 → _ from fun q hq => by
                by_cases e : q = r
                · subst e; exact hbb.1 rfl
                · exact HQ.out q (by omega)
              have HP3 : Hid (Ap w3 b (r + 1) (tT b) (tM b)) := HPv.out.fill HHv.out hlt (show Only _ wv w3 from ⟨hO3.os, hO3.tape, hO3.output, hO3.size, hO3.block⟩) HF.out
              clear hF3 hbb hO3 HF HQ
              go_wp2
              go_roundw
              case rel => exact ⟨r + 1, _, by omega, by go_num, HH3, HQ3, HA3, HP3⟩
              case measure => simp [intOf]; omega
          · obtain rfl : r = c := by omega
            obtain ⟨g0, g1, g2, g3, g4, _⟩ := cells5 HAr2.out.graph
            rw [hb] at g0 g1 g2 g3 g4
            have hof := of_any u (some ⟨b + 1 + 1, 0, none⟩) (b + 2) r r (tT b) wr HHr.out.tabs
            obtain ⟨bu, hbu⟩ : ∃ x, isV r u = x := ⟨_, rfl⟩
            rw [hbu] at hof
            go_wp2_with fail
            refine hof.mono ?_
            clear hof
            rintro e w3 ⟨rfl, hb3⟩
            have HA3 : Hid (Ahead w w3 #[.int .i64 u.k, .int .i64 u.n, .string u.s, .int .i64 u.a, .slice ta r cp]) := HAr2.out.below hb3
            have HH3 : Hid (Half w3 b r r base L K X) := HHr.out.below hb3
            have HP3 : Hid (Ap w3 b r (tT b) (tM b)) := HPr.out.half HHr.out hb3
            clear hb3 HAr2 HHr g0 g1 g2 g3 g4
            have R0 : Hid (w3.heap[b + 1]? = some (.cells #[.nilIface, .slice none 0 0] 106 (0, 0))) := by rw [← hb]; exact HA3.out.res
            obtain ⟨r0, r1, rz⟩ := two_at R0.out
            cases bu
            · have HN : Hid (¬ OkG r u L K X) := show ¬ OkG r u L K X from fun h => by have := h.root; rw [hbu] at this; cases this
              clear hbu
              go_wp2
              have R1 := two_put R0.out .nilIface (.slice none 0 0)
              obtain ⟨q0, q1, _⟩ := two_at R1
              refine bodyPost_ret (v := .tuple #[.agg #[.nilIface, .slice none 0 0], .bool false]) (by simp [results, Try.results52, go_sem, q0, q1]) rfl ⟨Or.inr ⟨HN.out, rfl⟩, ?_⟩
              exact (HA3.out.bel.setCell (by show w.heap.size ≤ b + 1; omega) _).setCell (by show w.heap.size ≤ b + 1; omega) _
            · have HG : Hid (OkG r u L K X) := show OkG r u L K X from ⟨h200, hbu, HQ.out⟩
              obtain ⟨xt, xy, hxv⟩ := ifv_form (tT b) u
              have HXV : Hid (ifv (tT b) u = .iface xt xy) := hxv
              rw [if_pos rfl, HXV.out]
              clear hxv
              clear hbu
              go_wp2
              have R1 := two_put R0.out (.iface xt xy) (.slice (some ⟨b + 1 + 1, 0, none⟩) r r)
              obtain ⟨q0, q1, _⟩ := two_at R1
              refine bodyPost_ret (v := .tuple #[.agg #[.iface xt xy, .slice (some ⟨b + 1 + 1, 0, none⟩) r r], .bool true]) (by simp [results, Try.results52, go_sem, q0, q1]) rfl ⟨Or.inl ⟨HG.out, ?_, ⟨base, ?_⟩, ?_⟩, ?_⟩
              · rw [hb, HXV.out]
              · rw [hb]
                have h := HH3.out
                have k1 : ∀ k, k ≠ b + 1 → (((w3.setCell ⟨b + 1, 0, none⟩ (.iface xt xy)).setCell ⟨b + 1, 1, none⟩ (.slice (some ⟨b + 1 + 1, 0, none⟩) r r))).heap[k]? = w3.heap[k]? := fun k hk => by
                  rw [Below.heap_setCell _ _ _ _ (show k ≠ b + 1 from hk), Below.heap_setCell _ _ _ _ (show k ≠ b + 1 from hk)]
                have ho : Only (fun k => k = b + 1) w3 (((w3.setCell ⟨b + 1, 0, none⟩ (.iface xt xy)).setCell ⟨b + 1, 1, none⟩ (.slice (some ⟨b + 1 + 1, 0, none⟩) r r))) := ⟨rfl, rfl, rfl, by simp [World.setCell], fun k _ hk => k1 k hk⟩
                refine ⟨h.row.of_block (k1 _ (by omega)), fun j hj => ⟨(h.full j hj).1.only ho (by unfold tT; omega) (by unfold tM; omega) (fun g hg => by have := (h.full j hj).2; omega), (h.full j hj).2⟩, fun j h1 h2 => by omega, ?_⟩
                have := h.size
                simp [World.setCell]
                omega
              · rw [hb]
                exact HP3.out.same (fun j hj => by
                  rw [Below.heap_setCell _ _ _ _ (show tT b j ≠ b + 1 by unfold tT; omega), Below.heap_setCell _ _ _ _ (show tT b j ≠ b + 1 by unfold tT; omega)])
              · exact (HA3.out.bel.setCell (by show w.heap.size ≤ b + 1; omega) _).setCell (by show w.heap.size ≤ b + 1; omega) _
  · have HN : Hid (¬ OkG n u L K X) := show ¬ OkG n u L K X from fun h => h200 h.len
    have hgt : 200 < n := by omega
    have R0 : Hid (wa.heap[b + 1]? = some (.cells #[.nilIface, .slice none 0 0] 106 (0, 0))) := by rw [← hb]; exact HA.out.res
    obtain ⟨r0, r1, rz⟩ := two_at R0.out
    rw [hb] at g0 g1 g2 g3 g4
    go_enter Try.func52, Try.ntmps52
    go_wp2
    rw [← hwa]
    refine bodyPost_ret (v := .tuple #[.agg #[.nilIface, .slice none 0 0], .bool false]) (by simp [results, Try.results52, go_sem, r0, r1]) rfl ⟨Or.inr ⟨HN.out, rfl⟩, HA.out.bel⟩

end Go.Proofs.Ytgflalfiopnmnaa
