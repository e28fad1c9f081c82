import Derived.Test.YtgflalfiopnmnabG1
import Derived.Test.YtgflalfiopnmnabSmPure
import Derived.Test.YtgflalfiopnmnabCnTb
import Derived.Test.YtgflalfiopnmnabVlOrd
import Derived.Test.YtgflalfiopnmnabVlSp
import Derived.Sort.Grow
import Derived.Shelf.SlSortCmp.WholeK
import Derived.Shelf.SlLaysF0
import Derived.Test.YtgflalfiopnmnabCnOut
/-
  Going through two graphs side by side, in two ways; that both come to one answer. No Go in sight.
-/
namespace Go.Proofs.Ytgflalfiopnmnab.Aw
open Vl

theorem eqV_refl (x : V) : eqV x x = true := eqV_iff.2 rfl

structure E where
  a : V
  b : V
  p : List V

structure Sys where
  tab : V → Bool
  atA : V → V → V
  atB : V → V → V
  kids : V → V → List V
  D : V → V → Bool


def Sys.cp (S : Sys) (e : E) : Bool := S.tab e.a && S.tab e.b
def Sys.part (S : Sys) (e : E) : Bool := !(S.tab e.a && S.tab e.b) && !(eqV e.a e.b)
def Sys.child (S : Sys) (e : E) (k : V) : E := ⟨S.atA e.a k, S.atB e.b k, e.p ++ [k]⟩
def same (c y : E) : Bool := eqV y.a c.a && eqV y.b c.b
def Sys.add (S : Sys) (l : List (E)) (c : E) : List (E) := if S.cp c && l.any (same c) then l else l ++ [c]
def Sys.grow (S : Sys) (l : List (E)) (e : E) : List (E) := (S.kids e.a e.b).foldl (fun l k => S.add l (S.child e k)) l
def Sys.iadd (S : Sys) (l : List (E)) (c : E) : List (E) := if S.cp c && S.D c.a c.b && !(l.any (same c)) then l ++ [c] else l
def Sys.igrow (S : Sys) (l : List (E)) (e : E) : List (E) := (S.kids e.a e.b).foldl (fun l k => S.iadd l (S.child e k)) l

inductive SReach (S : Sys) (r : E) : Nat → List (E) → Prop
  | start : SReach S r 0 [r]
  | plain {i : Nat} {l : List (E)} {e : E} : SReach S r i l → l[i]? = some e → S.cp e = false → S.part e = false → SReach S r (i + 1) l
  | couple {i : Nat} {l : List (E)} {e : E} : SReach S r i l → l[i]? = some e → S.cp e = true → SReach S r (i + 1) (S.grow l e)

def SDone (S : Sys) (r : E) (ans : List V) : Prop := (∃ i l e, SReach S r i l ∧ l[i]? = some e ∧ S.part e = true ∧ ans = e.p) ∨ (∃ i l, SReach S r i l ∧ l.length ≤ i ∧ ans = [])

inductive IReach (S : Sys) (r : E) : Nat → List (E) → Prop
  | start : IReach S r 0 (S.iadd [] r)
  | step {j : Nat} {q : List (E)} {e : E} : IReach S r j q → q[j]? = some e → (∀ k ∈ S.kids e.a e.b, S.part (S.child e k) = false) → IReach S r (j + 1) (S.igrow q e)

def IDone (S : Sys) (r : E) (ans : List V) : Prop :=
  (∃ j q e pre k post, IReach S r j q ∧ q[j]? = some e ∧ S.kids e.a e.b = pre ++ k :: post ∧ (∀ k' ∈ pre, S.part (S.child e k') = false) ∧ S.part (S.child e k) = true ∧ ans = e.p ++ [k]) ∨ (∃ j q, IReach S r j q ∧ q.length ≤ j ∧ ans = [])


theorem IReach.det {S : Sys} {r : E} {j : Nat} {q : List (E)} (h : IReach S r j q) : ∀ {q'}, IReach S r j q' → q = q' := by
  induction h with
  | start => intro q' h'; cases h'; rfl
  | step h1 h2 h3 ih =>
    intro q' h'
    cases h' with
    | step g1 g2 g3 =>
      obtain rfl := ih g1
      rw [h2] at g2
      cases g2
      rfl

theorem IReach.back {S : Sys} {r : E} {j : Nat} {q : List (E)} (h : IReach S r j q) : ∀ i, i < j → ∃ q' e, IReach S r i q' ∧ q'[i]? = some e ∧ (∀ k ∈ S.kids e.a e.b, S.part (S.child e k) = false) := by
  induction h with
  | start => intro i hi; omega
  | @step j q e h1 h2 h3 ih =>
    intro i hi
    by_cases e' : i = j
    · subst e'; exact ⟨q, e, h1, h2, h3⟩
    · exact ih i (by omega)

theorem first_one {P : V → Bool} {pre post pre' post' : List V} {k k' : V} (h : pre ++ k :: post = pre' ++ k' :: post') (h1 : ∀ x ∈ pre, P x = false) (h2 : P k = true) (h3 : ∀ x ∈ pre', P x = false) (h4 : P k' = true) : k = k' := by
  induction pre generalizing pre' with
  | nil =>
    cases pre' with
    | nil => simp at h; exact h.1
    | cons y ys => simp at h; have := h3 y (by simp); rw [← h.1, h2] at this; cases this
  | cons x xs ih =>
    cases pre' with
    | nil => simp at h; have := h1 x (by simp); rw [h.1, h4] at this; cases this
    | cons y ys =>
      simp at h
      exact ih h.2 (fun z hz => h1 z (by simp [hz])) (fun z hz => h3 z (by simp [hz]))

theorem IDone.det {S : Sys} {r : E} {x y : List V} (h : IDone S r x) (g : IDone S r y) : x = y := by
  rcases h with ⟨j, q, e, pre, k, post, h1, h2, h3, h4, h5, rfl⟩ | ⟨j, q, h1, h2, rfl⟩
  · rcases g with ⟨j', q', e', pre', k', post', g1, g2, g3, g4, g5, rfl⟩ | ⟨j', q', g1, g2, rfl⟩
    · have hj : j = j' := by
        rcases Nat.lt_trichotomy j j' with hl | he | hl
        · obtain ⟨q2, e2, b1, b2, b3⟩ := g1.back j hl
          obtain rfl := h1.det b1
          rw [h2] at b2; cases b2
          have := b3 k (by rw [h3]; simp)
          rw [h5] at this; cases this
        · exact he
        · obtain ⟨q2, e2, b1, b2, b3⟩ := h1.back j' hl
          obtain rfl := g1.det b1
          rw [g2] at b2; cases b2
          have := b3 k' (by rw [g3]; simp)
          rw [g5] at this; cases this
      subst hj
      obtain rfl := h1.det g1
      rw [h2] at g2; cases g2
      rw [h3] at g3
      rw [first_one (P := fun k => S.part (S.child e k)) g3 h4 h5 g4 g5]
    · exfalso
      rcases Nat.lt_or_ge j j' with hl | hl
      · obtain ⟨q2, e2, b1, b2, b3⟩ := g1.back j hl
        obtain rfl := h1.det b1
        rw [h2] at b2; cases b2
        have := b3 k (by rw [h3]; simp)
        rw [h5] at this; cases this
      · rcases Nat.lt_or_ge j' j with hl' | hl'
        · obtain ⟨q2, e2, b1, b2, _⟩ := h1.back j' hl'
          obtain rfl := g1.det b1
          rw [List.getElem?_eq_none g2] at b2; cases b2
        · obtain rfl : j = j' := by omega
          obtain rfl := h1.det g1
          rw [List.getElem?_eq_none g2] at h2; cases h2
  · rcases g with ⟨j', q', e', pre', k', post', g1, g2, g3, g4, g5, rfl⟩ | ⟨j', q', g1, g2, rfl⟩
    · exfalso
      rcases Nat.lt_or_ge j' j with hl | hl
      · obtain ⟨q2, e2, b1, b2, b3⟩ := h1.back j' hl
        obtain rfl := g1.det b1
        rw [g2] at b2; cases b2
        have := b3 k' (by rw [g3]; simp)
        rw [g5] at this; cases this
      · rcases Nat.lt_or_ge j j' with hl' | hl'
        · obtain ⟨q2, e2, b1, b2, _⟩ := g1.back j hl'
          obtain rfl := h1.det b1
          rw [List.getElem?_eq_none h2] at b2; cases b2
        · obtain rfl : j = j' := by omega
          obtain rfl := h1.det g1
          rw [List.getElem?_eq_none h2] at g2; cases g2
    · rfl

/-- What holds of the graphs: Good couples lead to good ones; couples of one class part nowhere and lead to such. -/
structure Fits (S : Sys) (G : V → V → Prop) : Prop where
  next : ∀ x y, G x y → S.tab x = true → S.tab y = true → ∀ k ∈ S.kids x y, G (S.atA x k) (S.atB y k)
  alike : ∀ x y, G x y → S.tab x = true → S.tab y = true → S.D x y = false → ∀ k ∈ S.kids x y, (S.tab (S.atA x k) = true ∧ S.tab (S.atB y k) = true ∧ S.D (S.atA x k) (S.atB y k) = false) ∨ (¬ (S.tab (S.atA x k) = true ∧ S.tab (S.atB y k) = true) ∧ S.atA x k = S.atB y k)

def Sys.live (S : Sys) (e : E) : Bool := S.cp e && S.D e.a e.b

theorem any_live {S : Sys} {l : List (E)} {c : E} (hc : S.live c = true) : l.any (same c) = (l.filter S.live).any (same c) := by
  induction l with
  | nil => rfl
  | cons y ys ih =>
    rw [List.any_cons, ih]
    by_cases h : S.live y = true
    · rw [List.filter_cons_of_pos h, List.any_cons]
    · rw [List.filter_cons_of_neg h]
      have : same c y = false := by
        rw [Bool.eq_false_iff]
        intro hs
        simp only [same, Bool.and_eq_true, eqV_iff] at hs
        apply h
        simp only [Sys.live, Sys.cp] at hc ⊢
        rw [hs.1, hs.2]
        exact hc
      rw [this, Bool.false_or]

theorem add_filter {S : Sys} (l : List (E)) (c : E) : (S.add l c).filter S.live = S.iadd (l.filter S.live) c := by
  unfold Sys.add Sys.iadd
  by_cases hl : S.live c = true
  · have hcp : S.cp c = true := by unfold Sys.live at hl; simp at hl; exact hl.1
    have hD : S.D c.a c.b = true := by unfold Sys.live at hl; simp at hl; exact hl.2
    rw [any_live hl, hcp, hD]
    by_cases hm : (l.filter S.live).any (same c) = true
    · simp [hm]
    · simp only [Bool.not_eq_true] at hm
      simp [hm, hl]
  · simp only [Bool.not_eq_true] at hl
    have : (S.cp c && S.D c.a c.b) = false := hl
    rw [this]
    split
    · simp
    · simp [hl]

theorem fold_filter {S : Sys} (e : E) : ∀ (ks : List V) (l : List (E)), (ks.foldl (fun l k => S.add l (S.child e k)) l).filter S.live = ks.foldl (fun l k => S.iadd l (S.child e k)) (l.filter S.live)
  | [], l => rfl
  | k :: ks, l => by
    simp only [List.foldl_cons]
    rw [fold_filter e ks, add_filter]

theorem grow_filter {S : Sys} (l : List (E)) (e : E) : (S.grow l e).filter S.live = S.igrow (l.filter S.live) e := fold_filter e _ l

theorem fold_pre {S : Sys} (e : E) : ∀ (ks : List V) (l : List (E)), ∃ t, ks.foldl (fun l k => S.add l (S.child e k)) l = l ++ t ∧ ∀ c ∈ t, ∃ k ∈ ks, c = S.child e k
  | [], l => ⟨[], by simp, by simp⟩
  | k :: ks, l => by
    simp only [List.foldl_cons]
    obtain ⟨t, h1, h2⟩ := fold_pre e ks (S.add l (S.child e k))
    rw [h1]
    unfold Sys.add
    split
    · exact ⟨t, rfl, fun c hc => by obtain ⟨k', h, h'⟩ := h2 c hc; exact ⟨k', by simp [h], h'⟩⟩
    · refine ⟨S.child e k :: t, by simp, fun c hc => ?_⟩
      rcases List.mem_cons.1 hc with rfl | hc
      · exact ⟨k, by simp, rfl⟩
      · obtain ⟨k', h, h'⟩ := h2 c hc; exact ⟨k', by simp [h], h'⟩

theorem grow_pre {S : Sys} (l : List (E)) (e : E) : ∃ t, S.grow l e = l ++ t ∧ ∀ c ∈ t, ∃ k ∈ S.kids e.a e.b, c = S.child e k := fold_pre e _ l

theorem igrow_dead {S : Sys} {q : List (E)} {e : E} : (∀ k ∈ S.kids e.a e.b, S.live (S.child e k) = false) → S.igrow q e = q := by
  unfold Sys.igrow
  generalize S.kids e.a e.b = ks
  induction ks generalizing q with
  | nil => intro _; rfl
  | cons k ks ih =>
    intro h
    simp only [List.foldl_cons]
    have : S.iadd q (S.child e k) = q := by
      unfold Sys.iadd
      have hk := h k (by simp)
      unfold Sys.live at hk
      rw [hk]
      simp
    rw [this]
    exact ih (fun k' hk' => h k' (by simp [hk']))

/-- Up to where nothing parts: the two lines beside one another. -/
structure Ph1 (S : Sys) (G : V → V → Prop) (r : E) (i : Nat) (l : List (E)) : Prop where
  ex : ∃ j, IReach S r j (l.filter S.live) ∧ ((l.take i).filter S.live).length = j
  calm : ∀ e ∈ l, S.part e = false
  good : ∀ e ∈ l, G e.a e.b

structure Ph2 (S : Sys) (r : E) (i : Nat) (l : List (E)) : Prop where
  ex : ∃ pre e rest, l = pre ++ e :: rest ∧ i ≤ pre.length ∧ (∀ x ∈ pre, S.part x = false) ∧ S.part e = true ∧ IDone S r e.p

theorem take_next {l : List (E)} {i : Nat} {e : E} (h : l[i]? = some e) : l.take (i + 1) = l.take i ++ [e] := by
  rw [List.take_add_one, h]; rfl

theorem at_live {S : Sys} {l : List (E)} {i : Nat} {e : E} (h : l[i]? = some e) (hl : S.live e = true) : (l.filter S.live)[((l.take i).filter S.live).length]? = some e := by
  have e1 : l = l.take i ++ e :: l.drop (i + 1) := by
    have := List.take_append_drop i l
    rw [List.drop_eq_getElem_cons (by have := (List.getElem?_eq_some_iff.1 h).1; exact this)] at this
    rw [(List.getElem?_eq_some_iff.1 h).2] at this
    exact this.symm
  have e2 : l.filter S.live = (l.take i).filter S.live ++ e :: (l.drop (i + 1)).filter S.live := by
    conv => lhs; rw [e1]
    rw [List.filter_append, List.filter_cons_of_pos hl]
  rw [e2]
  simp

theorem split_first {P : V → Bool} : ∀ (ks : List V), (∃ k ∈ ks, P k = true) → ∃ pre k post, ks = pre ++ k :: post ∧ (∀ x ∈ pre, P x = false) ∧ P k = true
  | [], h => by obtain ⟨k, hk, _⟩ := h; cases hk
  | k :: ks, h => by
    by_cases hp : P k = true
    · exact ⟨[], k, ks, rfl, by simp, hp⟩
    · have : ∃ k ∈ ks, P k = true := by
        obtain ⟨x, hx, hxp⟩ := h
        rcases List.mem_cons.1 hx with rfl | hx
        · exact absurd hxp hp
        · exact ⟨x, hx, hxp⟩
      obtain ⟨pre, x, post, h1, h2, h3⟩ := split_first ks this
      exact ⟨k :: pre, x, post, by rw [h1]; rfl, fun y hy => by rcases List.mem_cons.1 hy with rfl | hy; exact (Bool.not_eq_true _).mp hp; exact h2 y hy, h3⟩

/-- Where one of the children parts: it stands behind all that lay ahead. -/
theorem fold_part {S : Sys} {e : E} {l : List (E)} (hl : ∀ x ∈ l, S.part x = false) : ∀ (pre : List V) (k : V) (post : List V), (∀ x ∈ pre, S.part (S.child e x) = false) → S.part (S.child e k) = true → ∃ ps rest, (pre ++ k :: post).foldl (fun l k => S.add l (S.child e k)) l = ps ++ S.child e k :: rest ∧ l.length ≤ ps.length ∧ ∀ x ∈ ps, S.part x = false
  | [], k, post, _, hk => by
    simp only [List.nil_append, List.foldl_cons]
    have : S.add l (S.child e k) = l ++ [S.child e k] := by
      unfold Sys.add
      have : S.cp (S.child e k) = false := by
        unfold Sys.part at hk
        unfold Sys.cp
        simp only [Bool.and_eq_true, Bool.not_eq_true'] at hk
        exact hk.1
      rw [this]; simp
    rw [this]
    obtain ⟨t, h1, _⟩ := fold_pre (S := S) e post (l ++ [S.child e k])
    exact ⟨l, t, by rw [h1]; simp, Nat.le_refl _, hl⟩
  | x :: pre, k, post, hp, hk => by
    simp only [List.cons_append, List.foldl_cons]
    have hl' : ∀ y ∈ S.add l (S.child e x), S.part y = false := by
      intro y hy
      unfold Sys.add at hy
      split at hy
      · exact hl y hy
      · rcases List.mem_append.1 hy with hy | hy
        · exact hl y hy
        · simp at hy; rw [hy]; exact hp x (by simp)
    obtain ⟨ps, rest, h1, h2, h3⟩ := fold_part hl' pre k post (fun y hy => hp y (by simp [hy])) hk
    refine ⟨ps, rest, h1, ?_, h3⟩
    have : l.length ≤ (S.add l (S.child e x)).length := by unfold Sys.add; split <;> simp
    omega

theorem phases {S : Sys} {G : V → V → Prop} (hF : Fits S G) {r : E} (hr : G r.a r.b) (hp : S.part r = false) {i : Nat} {l : List (E)} (h : SReach S r i l) : Ph1 S G r i l ∨ Ph2 S r i l := by
  induction h with
  | start =>
    refine Or.inl ⟨⟨0, ?_, by simp⟩, by simpa using hp, by simpa using hr⟩
    have : ([r] : List (E)).filter S.live = S.iadd [] r := by
      have := add_filter (S := S) [] r
      simpa [Sys.add] using this
    rw [this]
    exact IReach.start
  | @plain i l e h1 h2 h3 h4 ih =>
    rcases ih with ⟨⟨j, hi, hj⟩, hc, hg⟩ | ⟨pre, e', rest, p1, p2, p3, p4, p5⟩
    · refine Or.inl ⟨⟨j, hi, ?_⟩, hc, hg⟩
      rw [take_next h2, List.filter_append]
      have : S.live e = false := by unfold Sys.live; rw [h3]; rfl
      simp [this, hj]
    · refine Or.inr ⟨pre, e', rest, p1, ?_, p3, p4, p5⟩
      rcases Nat.lt_or_ge i pre.length with hl | hl
      · omega
      · obtain rfl : i = pre.length := by omega
        rw [p1] at h2
        simp at h2
        rw [← h2, p4] at h4
        cases h4
  | @couple i l e h1 h2 h3 ih =>
    rcases ih with ⟨⟨j, hi, hj⟩, hc, hg⟩ | ⟨pre, e', rest, p1, p2, p3, p4, p5⟩
    · have he : e ∈ l := List.mem_of_getElem? h2
      have h3' : S.tab e.a = true ∧ S.tab e.b = true := by unfold Sys.cp at h3; simpa using h3
      by_cases hpt : ∃ k ∈ S.kids e.a e.b, S.part (S.child e k) = true
      · obtain ⟨pre, k, post, s1, s2, s3⟩ := split_first (P := fun k => S.part (S.child e k)) _ hpt
        obtain ⟨ps, rest, f1, f2, f3⟩ := fold_part (S := S) (e := e) hc pre k post s2 s3
        have hlive : S.live e = true := by
          unfold Sys.live
          rw [h3, Bool.true_and]
          cases hD : S.D e.a e.b with
          | true => rfl
          | false =>
            exfalso
            rcases hF.alike _ _ (hg e he) h3'.1 h3'.2 hD k (by rw [s1]; simp) with ⟨a1, a2, _⟩ | ⟨_, a2⟩
            · unfold Sys.part Sys.child at s3; simp [a1, a2] at s3
            · unfold Sys.part Sys.child at s3; rw [a2] at s3; simp [eqV_refl] at s3
        have hat := at_live h2 hlive
        rw [hj] at hat
        refine Or.inr ⟨ps, S.child e k, rest, ?_, ?_, f3, s3, Or.inl ⟨j, _, e, pre, k, post, hi, hat, s1, s2, s3, rfl⟩⟩
        · unfold Sys.grow; rw [s1]; exact f1
        · have := (List.getElem?_eq_some_iff.1 h2).1; omega
      · have hno : ∀ k ∈ S.kids e.a e.b, S.part (S.child e k) = false := fun k hk => by
          cases hh : S.part (S.child e k) with
          | false => rfl
          | true => exact absurd ⟨k, hk, hh⟩ hpt
        obtain ⟨t, t1, t2⟩ := grow_pre (S := S) l e
        have hlt := (List.getElem?_eq_some_iff.1 h2).1
        have htk : (S.grow l e).take (i + 1) = l.take i ++ [e] := by
          rw [t1, List.take_append_of_le_length (by omega), take_next h2]
        refine Or.inl ⟨?_, ?_, ?_⟩
        · rw [grow_filter, htk, List.filter_append]
          cases hlive : S.live e with
          | true =>
            have hat := at_live h2 hlive
            rw [hj] at hat
            refine ⟨j + 1, IReach.step hi hat hno, ?_⟩
            simp [hlive, hj]
          | false =>
            have hD : S.D e.a e.b = false := by unfold Sys.live at hlive; rw [h3, Bool.true_and] at hlive; exact hlive
            have : S.igrow (l.filter S.live) e = l.filter S.live := igrow_dead (fun k hk => by
              unfold Sys.live Sys.cp Sys.child
              rcases hF.alike _ _ (hg e he) h3'.1 h3'.2 hD k hk with ⟨_, _, a3⟩ | ⟨a1, _⟩
              · simp [a3]
              · simp only [Bool.and_eq_false_iff]
                left
                rw [← Bool.and_eq_false_iff, Bool.eq_false_iff]
                simpa using a1)
            rw [this]
            exact ⟨j, hi, by simp [hlive, hj]⟩
        · intro x hx
          rw [t1] at hx
          rcases List.mem_append.1 hx with hx | hx
          · exact hc x hx
          · obtain ⟨k, hk, rfl⟩ := t2 x hx; exact hno k hk
        · intro x hx
          rw [t1] at hx
          rcases List.mem_append.1 hx with hx | hx
          · exact hg x hx
          · obtain ⟨k, hk, rfl⟩ := t2 x hx
            exact hF.next _ _ (hg e he) h3'.1 h3'.2 k hk
    · obtain ⟨t, t1, t2⟩ := grow_pre (S := S) l e
      refine Or.inr ⟨pre, e', rest ++ t, by rw [t1, p1]; simp, ?_, p3, p4, p5⟩
      rcases Nat.lt_or_ge i pre.length with hl | hl
      · omega
      · obtain rfl : i = pre.length := by omega
        rw [p1] at h2
        simp at h2
        rw [h2] at p4
        unfold Sys.part at p4
        unfold Sys.cp at h3
        rw [h3] at p4
        cases p4

theorem meet {S : Sys} {G : V → V → Prop} (hF : Fits S G) {r : E} (hr : G r.a r.b) (hp0 : r.p = []) {x y : List V} (h : SDone S r x) (g : IDone S r y) : x = y := by
  refine IDone.det (S := S) (r := r) ?_ g
  by_cases hp : S.part r = true
  · have hz : S.iadd [] r = [] := by
      unfold Sys.iadd
      have : S.cp r = false := by unfold Sys.part at hp; unfold Sys.cp; simp only [Bool.and_eq_true, Bool.not_eq_true'] at hp; exact hp.1
      rw [this]; rfl
    have hI : IDone S r [] := Or.inr ⟨0, _, IReach.start, by rw [hz]; simp, rfl⟩
    have key : ∀ i l, SReach S r i l → i = 0 ∧ l = [r] := by
      intro i l hs
      induction hs with
      | start => exact ⟨rfl, rfl⟩
      | plain _ h2 _ h4 ih => obtain ⟨rfl, rfl⟩ := ih; simp at h2; rw [← h2, hp] at h4; cases h4
      | couple _ h2 h3 ih =>
        obtain ⟨rfl, rfl⟩ := ih
        simp at h2
        rw [← h2] at h3
        unfold Sys.part at hp; unfold Sys.cp at h3; rw [h3] at hp; cases hp
    rcases h with ⟨i, l, e, h1, h2, h3, rfl⟩ | ⟨i, l, h1, h2, rfl⟩
    · obtain ⟨rfl, rfl⟩ := key i l h1
      simp at h2
      rw [← h2, hp0]
      exact hI
    · exact hI
  · have hp' : S.part r = false := (Bool.not_eq_true _).mp hp
    rcases h with ⟨i, l, e, h1, h2, h3, rfl⟩ | ⟨i, l, h1, h2, rfl⟩
    · rcases phases hF hr hp' h1 with ⟨_, hc, _⟩ | ⟨pre, e', rest, p1, p2, p3, p4, p5⟩
      · have := hc e (List.mem_of_getElem? h2); rw [h3] at this; cases this
      · rcases Nat.lt_or_ge i pre.length with hl | hl
        · rw [p1, List.getElem?_append_left hl] at h2
          have := p3 e (List.mem_of_getElem? h2)
          rw [h3] at this; cases this
        · obtain rfl : i = pre.length := by omega
          rw [p1] at h2
          simp at h2
          rw [← h2]
          exact p5
    · rcases phases hF hr hp' h1 with ⟨⟨j, hi, hj⟩, hc, _⟩ | ⟨pre, e', rest, p1, p2, p3, p4, p5⟩
      · refine Or.inr ⟨j, _, hi, ?_, rfl⟩
        rw [List.take_of_length_le h2] at hj
        omega
      · exfalso
        rw [p1] at h2
        simp at h2
        omega


theorem nodup_len : ∀ (N : Nat) (l : List Nat), l.Nodup → (∀ x ∈ l, x < N) → l.length ≤ N
  | 0, l, _, h => by
    cases l with
    | nil => simp
    | cons x xs => have := h x (by simp); omega
  | N + 1, l, hn, h => by
    have h1 := nodup_len N (l.erase N) (hn.erase N) (fun x hx => by
      have h2 := (hn.mem_erase_iff).1 hx
      have := h x h2.2
      have := h2.1
      omega)
    rw [List.length_erase] at h1
    split at h1 <;> omega

/-- A number for each couple. -/
structure Ix (S : Sys) (G : V → V → Prop) (ix : V → V → Nat) (N : Nat) : Prop where
  lt : ∀ x y, G x y → S.tab x = true → S.tab y = true → ix x y < N
  one : ∀ x y x' y', G x y → S.tab x = true → S.tab y = true → G x' y' → S.tab x' = true → S.tab y' = true → ix x y = ix x' y' → x = x' ∧ y = y'

structure Wide (S : Sys) (G : V → V → Prop) (ix : V → V → Nat) (l : List (E)) (i : Nat) : Prop where
  good : ∀ e ∈ l, G e.a e.b
  path : ∀ e ∈ l, e.p.length ≤ i
  once : ((l.filter S.cp).map fun e => ix e.a e.b).Nodup

theorem Wide.add {S : Sys} {G : V → V → Prop} {ix : V → V → Nat} {N : Nat} (hI : Ix S G ix N) {l : List (E)} {i : Nat} (h : Wide S G ix l i) {c : E} (hg : G c.a c.b) (hp : c.p.length ≤ i) : Wide S G ix (S.add l c) i := by
  unfold Sys.add
  split
  · exact h
  · rename_i hm
    refine ⟨fun e he => ?_, fun e he => ?_, ?_⟩
    · rcases List.mem_append.1 he with he | he
      · exact h.good e he
      · simp at he; rw [he]; exact hg
    · rcases List.mem_append.1 he with he | he
      · exact h.path e he
      · simp at he; rw [he]; exact hp
    · rw [List.filter_append]
      cases hc : S.cp c with
      | false => simp [hc, h.once]
      | true =>
        simp only [hc, Bool.true_and] at hm
        have hct : S.tab c.a = true ∧ S.tab c.b = true := by unfold Sys.cp at hc; simpa using hc
        simp only [List.filter_cons, hc, if_true, List.filter_nil, List.map_append, List.map_cons, List.map_nil]
        rw [List.nodup_append]
        refine ⟨h.once, by simp, ?_⟩
        intro a ha b hb e
        simp at hb
        subst hb
        obtain ⟨y, hy, rfl⟩ := List.mem_map.1 ha
        rw [List.mem_filter] at hy
        have hyt : S.tab y.a = true ∧ S.tab y.b = true := by have := hy.2; unfold Sys.cp at this; simpa using this
        obtain ⟨e1, e2⟩ := hI.one _ _ _ _ (h.good y hy.1) hyt.1 hyt.2 hg hct.1 hct.2 e
        apply hm
        rw [List.any_eq_true]
        exact ⟨y, hy.1, by simp [same, eqV_iff, e1, e2]⟩

theorem Wide.more {S : Sys} {G : V → V → Prop} {ix : V → V → Nat} {l : List (E)} {i : Nat} (h : Wide S G ix l i) : Wide S G ix l (i + 1) := ⟨h.good, fun e he => by have := h.path e he; omega, h.once⟩

theorem Wide.fold {S : Sys} {G : V → V → Prop} {ix : V → V → Nat} {N : Nat} (hI : Ix S G ix N) {e : E} {i : Nat} : ∀ (ks : List V) (l : List (E)), Wide S G ix l i → (∀ k ∈ ks, G (S.atA e.a k) (S.atB e.b k)) → e.p.length + 1 ≤ i → Wide S G ix (ks.foldl (fun l k => S.add l (S.child e k)) l) i
  | [], _, h, _, _ => h
  | k :: ks, l, h, hg, hp => by
    simp only [List.foldl_cons]
    exact Wide.fold hI ks _ (h.add hI (hg k (by simp)) (by simp [Sys.child]; omega)) (fun k' hk' => hg k' (by simp [hk'])) hp

theorem fold_len {S : Sys} (e : E) : ∀ (ks : List V) (l : List (E)), (ks.foldl (fun l k => S.add l (S.child e k)) l).length ≤ l.length + ks.length
  | [], l => by simp
  | k :: ks, l => by
    simp only [List.foldl_cons, List.length_cons]
    have h1 := fold_len (S := S) e ks (S.add l (S.child e k))
    have h2 : (S.add l (S.child e k)).length ≤ l.length + 1 := by unfold Sys.add; split <;> simp
    omega

/-- What good couples lead to is good. -/
def Nexts (S : Sys) (G : V → V → Prop) : Prop := ∀ x y, G x y → S.tab x = true → S.tab y = true → ∀ k ∈ S.kids x y, G (S.atA x k) (S.atB y k)

theorem SReach.wide {S : Sys} {G : V → V → Prop} {ix : V → V → Nat} {N K : Nat} (hF : Nexts S G) (hI : Ix S G ix N) (hK : ∀ x y, G x y → S.tab x = true → S.tab y = true → (S.kids x y).length ≤ K) {r : E} (hr : G r.a r.b) (hp0 : r.p = []) {i : Nat} {l : List (E)} (h : SReach S r i l) : Wide S G ix l i ∧ l.length ≤ 1 + K * ((l.take i).filter S.cp).length := by
  induction h with
  | start =>
    refine ⟨⟨by simpa using hr, by simp [hp0], ?_⟩, by simp⟩
    cases hc : S.cp r <;> simp [hc]
  | @plain i l e h1 h2 h3 h4 ih =>
    refine ⟨ih.1.more, ?_⟩
    rw [take_next h2, List.filter_append]
    simp only [List.filter_cons, h3, List.filter_nil]
    simpa using ih.2
  | @couple i l e h1 h2 h3 ih =>
    have he : e ∈ l := List.mem_of_getElem? h2
    have h3' : S.tab e.a = true ∧ S.tab e.b = true := by unfold Sys.cp at h3; simpa using h3
    have hlt := (List.getElem?_eq_some_iff.1 h2).1
    obtain ⟨t, t1, _⟩ := grow_pre (S := S) l e
    have htk : (S.grow l e).take (i + 1) = l.take i ++ [e] := by
      rw [t1, List.take_append_of_le_length (by omega), take_next h2]
    refine ⟨Wide.fold hI _ _ ih.1.more (hF _ _ (ih.1.good e he) h3'.1 h3'.2) (by have := ih.1.path e he; omega), ?_⟩
    rw [htk, List.filter_append]
    have h5 := fold_len (S := S) e (S.kids e.a e.b) l
    have h6 := hK _ _ (ih.1.good e he) h3'.1 h3'.2
    have h7 := ih.2
    simp only [List.filter_cons, h3, if_true, List.filter_nil, List.length_append, List.length_cons, List.length_nil, Nat.mul_add, Nat.zero_add, Nat.mul_one]
    unfold Sys.grow
    omega

theorem Wide.few {S : Sys} {G : V → V → Prop} {ix : V → V → Nat} {N i : Nat} (hI : Ix S G ix N) {l : List (E)} (h : Wide S G ix l i) : (l.filter S.cp).length ≤ N := by
  have := nodup_len N _ h.once (fun x hx => by
    obtain ⟨y, hy, rfl⟩ := List.mem_map.1 hx
    rw [List.mem_filter] at hy
    have hyt : S.tab y.a = true ∧ S.tab y.b = true := by have := hy.2; unfold Sys.cp at this; simpa using this
    exact hI.lt _ _ (h.good y hy.1) hyt.1 hyt.2)
  simpa using this

theorem SReach.len {S : Sys} {G : V → V → Prop} {ix : V → V → Nat} {N K : Nat} (hF : Nexts S G) (hI : Ix S G ix N) (hK : ∀ x y, G x y → S.tab x = true → S.tab y = true → (S.kids x y).length ≤ K) {r : E} (hr : G r.a r.b) (hp0 : r.p = []) {i : Nat} {l : List (E)} (h : SReach S r i l) : l.length ≤ 1 + K * N := by
  obtain ⟨h1, h2⟩ := h.wide hF hI hK hr hp0
  have h3 := h1.few hI
  have h4 : ((l.take i).filter S.cp).length ≤ (l.filter S.cp).length := ((List.take_sublist i l).filter _).length_le
  have : K * ((l.take i).filter S.cp).length ≤ K * N := Nat.mul_le_mul_left _ (by omega)
  omega

theorem iadd_eq {S : Sys} (q : List (E)) (c : E) : S.iadd q c = q ∨ (S.iadd q c = S.add q c ∧ S.live c = true) := by
  unfold Sys.iadd Sys.add
  by_cases hl : S.live c = true
  · have hcp : S.cp c = true := by unfold Sys.live at hl; simp at hl; exact hl.1
    have hD : S.D c.a c.b = true := by unfold Sys.live at hl; simp at hl; exact hl.2
    rw [hcp, hD]
    cases q.any (same c) <;> simp [hl]
  · have : (S.cp c && S.D c.a c.b) = false := (Bool.not_eq_true _).mp hl
    rw [this]; simp

structure IWide (S : Sys) (G : V → V → Prop) (ix : V → V → Nat) (q : List (E)) (i : Nat) : Prop where
  wide : Wide S G ix q i
  live : ∀ e ∈ q, S.live e = true

theorem IWide.add {S : Sys} {G : V → V → Prop} {ix : V → V → Nat} {N : Nat} (hI : Ix S G ix N) {q : List (E)} {i : Nat} (h : IWide S G ix q i) {c : E} (hg : G c.a c.b) (hp : c.p.length ≤ i) : IWide S G ix (S.iadd q c) i := by
  rcases iadd_eq (S := S) q c with e | ⟨e, hl⟩
  · rw [e]; exact h
  · rw [e]
    refine ⟨h.wide.add hI hg hp, fun x hx => ?_⟩
    unfold Sys.add at hx
    split at hx
    · exact h.live x hx
    · rcases List.mem_append.1 hx with hx | hx
      · exact h.live x hx
      · simp at hx; rw [hx]; exact hl

theorem IWide.fold {S : Sys} {G : V → V → Prop} {ix : V → V → Nat} {N : Nat} (hI : Ix S G ix N) {e : E} {i : Nat} : ∀ (ks : List V) (q : List (E)), IWide S G ix q i → (∀ k ∈ ks, G (S.atA e.a k) (S.atB e.b k)) → e.p.length + 1 ≤ i → IWide S G ix (ks.foldl (fun l k => S.iadd l (S.child e k)) q) i
  | [], _, h, _, _ => h
  | k :: ks, q, h, hg, hp => by
    simp only [List.foldl_cons]
    exact IWide.fold hI ks _ (h.add hI (hg k (by simp)) (by simp [Sys.child]; omega)) (fun k' hk' => hg k' (by simp [hk'])) hp

theorem IReach.wide {S : Sys} {G : V → V → Prop} {ix : V → V → Nat} {N : Nat} (hF : Nexts S G) (hI : Ix S G ix N) {r : E} (hr : G r.a r.b) (hp0 : r.p = []) {j : Nat} {q : List (E)} (h : IReach S r j q) : IWide S G ix q j := by
  induction h with
  | start => exact IWide.add hI ⟨⟨by simp, by simp, by simp⟩, by simp⟩ hr (by simp [hp0])
  | @step j q e h1 h2 h3 ih =>
    have he : e ∈ q := List.mem_of_getElem? h2
    have hl := ih.live e he
    have h3' : S.tab e.a = true ∧ S.tab e.b = true := by unfold Sys.live Sys.cp at hl; simp at hl; exact hl.1
    exact IWide.fold hI _ _ ⟨ih.wide.more, ih.live⟩ (hF _ _ (ih.wide.good e he) h3'.1 h3'.2) (by have := ih.wide.path e he; omega)

theorem IWide.len {S : Sys} {G : V → V → Prop} {ix : V → V → Nat} {N i : Nat} (hI : Ix S G ix N) {q : List (E)} (h : IWide S G ix q i) : q.length ≤ N := by
  have h1 := h.wide.few hI
  have : q.filter S.cp = q := List.filter_eq_self.2 (fun e he => by have := h.live e he; unfold Sys.live at this; simp at this; exact this.1)
  rw [this] at h1
  exact h1


end Go.Proofs.Ytgflalfiopnmnab.Aw

/-
  Keys in their order. No Go in sight.
-/
namespace Go.Proofs.Ytgflalfiopnmnab
open Go Vl

theorem bl_trans : ∀ x y z : List UInt8, Op.bytesLess x y = true → Op.bytesLess y z = true → Op.bytesLess x z = true
  | [], [], _, h, _ => by simp [Op.bytesLess] at h
  | [], _ :: _, [], _, h => by simp [Op.bytesLess] at h
  | [], _ :: _, _ :: _, _, _ => by simp [Op.bytesLess]
  | _ :: _, [], _, h, _ => by simp [Op.bytesLess] at h
  | _ :: _, _ :: _, [], _, h => by simp [Op.bytesLess] at h
  | a :: x, b :: y, c :: z, h, k => by
    simp only [Op.bytesLess, Bool.or_eq_true, decide_eq_true_eq, Bool.and_eq_true, beq_iff_eq] at h k ⊢
    rcases h with h | ⟨rfl, h⟩
    · rcases k with k | ⟨rfl, _⟩
      · exact Or.inl (UInt8.lt_trans h k)
      · exact Or.inl h
    · rcases k with k | ⟨rfl, k⟩
      · exact Or.inl k
      · exact Or.inr ⟨rfl, bl_trans x y z h k⟩
theorem bl_ntrans {x y z : List UInt8} (h : Op.bytesLess x y = false) (k : Op.bytesLess y z = false) : Op.bytesLess x z = false := by
  cases hz : Op.bytesLess x z
  · rfl
  · exfalso
    have ht := bl_total x y
    rw [h] at ht
    by_cases e : x = y
    · subst e; rw [hz] at k; cases k
    · have : (x == y) = false := by simpa using e
      rw [this] at ht
      have hyx : Op.bytesLess y x = true := by rw [← ht]; rfl
      have := bl_trans y x z hyx hz
      rw [this] at k
      cases k

theorem le_trans {a b c : V} (h : less b a = false) (k : less c b = false) : less c a = false := by
  unfold less at *
  by_cases h1 : b.k = a.k
  · rw [if_pos h1] at h
    by_cases h2 : c.k = b.k
    · rw [if_pos h2] at k
      rw [if_pos (h2.trans h1)]
      by_cases h3 : b.k = 3
      · rw [if_pos h3] at h
        rw [if_pos (by omega)] at k ⊢
        exact bl_ntrans k h
      · rw [if_neg h3] at h
        rw [if_neg (by omega)] at k ⊢
        simp at h k ⊢
        omega
    · rw [if_neg h2] at k
      rw [if_neg (by omega)]
      simp at k ⊢
      omega
  · rw [if_neg h1] at h
    by_cases h2 : c.k = b.k
    · rw [if_neg (by omega)]
      simp at h ⊢
      omega
    · rw [if_neg h2] at k
      simp at h k
      by_cases h3 : c.k = a.k
      · omega
      · rw [if_neg h3]
        simp
        omega

/-- Two keys, neither of which comes ahead, are one. -/
theorem key_one {a b : V} (ha : isK a = true) (hb : isK b = true) (h : less a b = false) (k : less b a = false) : a = b := by
  have hk : ko a b = 0 := by unfold ko; simp [ha, hb, h, k]
  have h2 : ko a b ≠ 2 := by omega
  have := ko_zero h2
  rw [hk] at this
  exact eqV_iff.1 (by rw [← this]; rfl)

/-- Places in the order of their keys. -/
def SortW (K : Nat → V) (ls : List Nat) : Prop := ls.Pairwise fun a b => less (K b) (K a) = false

theorem SortW.ins {K : Nat → V} {A B : List Nat} {x : Nat} (h : SortW K (A ++ B)) (hB : ∀ y ∈ B, less (K x) (K y) = true) (hA : ∀ y, A.getLast? = some y → less (K x) (K y) = false) : SortW K (A ++ x :: B) := by
  obtain ⟨h1, h2, h3⟩ := List.pairwise_append.1 h
  refine List.pairwise_append.2 ⟨h1, List.pairwise_cons.2 ⟨fun y hy => less_asymm (hB y hy), h2⟩, fun a ha b hb => ?_⟩
  rcases List.mem_cons.1 hb with rfl | hb
  · obtain ⟨A', y, rfl⟩ : ∃ A' y, A = A' ++ [y] := by
      rcases List.eq_nil_or_concat A with rfl | ⟨A', y, rfl⟩
      · cases ha
      · exact ⟨A', y, by simp⟩
    have hl := hA y (by simp)
    rcases List.mem_append.1 ha with ha' | ha'
    · exact le_trans ((List.pairwise_append.1 h1).2.2 a ha' y (by simp)) hl
    · simp at ha'; subst ha'; exact hl
  · exact h3 a ha b hb

/-- Sorted places of keys that are each once are one row. -/
theorem sort_one {K : Nat → V} : ∀ {ls ms : List Nat}, (∀ a ∈ ls, ∀ b ∈ ls, less (K a) (K b) = false → less (K b) (K a) = false → a = b) → ls.Perm ms → SortW K ls → SortW K ms → ls = ms
  | [], ms, _, hp, _, _ => by
    have := hp.length_eq
    cases ms with
    | nil => rfl
    | cons => simp at this
  | a :: ls, [], _, hp, _, _ => by have := hp.length_eq; simp at this
  | a :: ls, b :: ms, hd, hp, h1, h2 => by
    obtain ⟨p1, p2⟩ := List.pairwise_cons.1 h1
    obtain ⟨q1, q2⟩ := List.pairwise_cons.1 h2
    have e : a = b := by
      by_cases e : a = b
      · exact e
      · have ha : a ∈ ms := by
          have : a ∈ b :: ms := hp.subset (by simp)
          rcases List.mem_cons.1 this with h | h
          · exact absurd h e
          · exact h
        have hb : b ∈ ls := by
          have : b ∈ a :: ls := hp.symm.subset (by simp)
          rcases List.mem_cons.1 this with h | h
          · exact absurd h.symm e
          · exact h
        exact hd a (by simp) b (by simp [hb]) (q1 a ha) (p1 b hb)
    subst e
    rw [sort_one (fun x hx y hy => hd x (by simp [hx]) y (by simp [hy])) (List.Perm.cons_inv hp) p2 q2]

/-- The places of a table's pairs in the order of their keys. -/
structure SortI (K : Nat → V) (L : Nat) (ls : List Nat) : Prop where
  perm : ls.Perm (List.range L)
  sort : SortW K ls
theorem SortI.len {K : Nat → V} {L : Nat} {ls : List Nat} (h : SortI K L ls) : ls.length = L := by rw [h.perm.length_eq]; simp
theorem SortI.lt {K : Nat → V} {L : Nat} {ls : List Nat} (h : SortI K L ls) {i : Nat} (hi : i < L) : ls.getD i 0 < L := by
  rw [List.getD_eq_getElem?_getD, List.getElem?_eq_getElem (by rw [h.len]; exact hi)]
  exact List.mem_range.1 (h.perm.subset (List.getElem_mem _))
theorem SortI.one {n : Nat} {K X : Nat → V} {L : Nat} {ls ms : List Nat} (hk : OkT n L K X) (h : SortI K L ls) (k : SortI K L ms) : ls = ms := by
  refine sort_one (K := K) (fun a ha b hb h1 h2 => ?_) (h.perm.trans k.perm.symm) h.sort k.sort
  have la := List.mem_range.1 (h.perm.subset ha)
  have lb := List.mem_range.1 (h.perm.subset hb)
  have e := key_one (hk.all a la).key (hk.all b lb).key h1 h2
  rcases Nat.lt_trichotomy a b with h' | h' | h'
  · have := (hk.all b lb).once a h'
    rw [e] at this
    simp [eqV] at this
  · exact h'
  · have := (hk.all a la).once b h'
    rw [e] at this
    simp [eqV] at this

end Go.Proofs.Ytgflalfiopnmnab

namespace Go.Proofs.Ytgflalfiopnmnab
open Go.RowKit Vl

/-- Tables of their own: none lies ahead of base, and no two have one order. -/
structure Ap (w : World) (base n : Nat) (T M : Nat → Nat) : Prop where
  lo : ∀ j, j < n → base ≤ T j
  own : ∀ j a o g, j < n → TabB w (T j) (M j) a o → o.ownBlock = some g → base ≤ g
  one : ∀ i j a o a' o' g, i < n → j < n → TabB w (T i) (M i) a o → TabB w (T j) (M j) a' o' → o.ownBlock = some g → o'.ownBlock = some g → i = j
  mlo : ∀ j, j < n → base ≤ M j
  mone : ∀ i j, i < n → j < n → M i = M j → i = j

theorem Ap.zero (w : World) (base : Nat) (T M : Nat → Nat) : Ap w base 0 T M :=
  ⟨fun _ hj => absurd hj (Nat.not_lt_zero _), fun _ _ _ _ hj => absurd hj (Nat.not_lt_zero _), fun _ _ _ _ _ _ _ hi => absurd hi (Nat.not_lt_zero _), fun _ hj => absurd hj (Nat.not_lt_zero _), fun _ _ hi => absurd hi (Nat.not_lt_zero _)⟩
theorem Ap.same {w w' : World} {base n : Nat} {T M : Nat → Nat} (h : Ap w base n T M) (hs : ∀ j, j < n → w'.heap[T j]? = w.heap[T j]?) : Ap w' base n T M := by
  have e : ∀ j a o, j < n → TabB w' (T j) (M j) a o → TabB w (T j) (M j) a o := fun j a o hj h' => (hs j hj).symm.trans h'
  exact ⟨h.lo, fun j a o g hj ht hg => h.own j a o g hj (e j a o hj ht) hg, fun i j a o a' o' g hi hj h1 h2 => h.one i j a o a' o' g hi hj (e i a o hi h1) (e j a' o' hj h2), h.mlo, h.mone⟩
theorem TabB.ord {w : World} {T M M' : Nat} {i i' : Int} {o o' : Value} (h : TabB w T M i o) (h' : TabB w T M' i' o') : o = o' := by
  unfold TabB at h h'
  rw [h] at h'
  simp only [Option.some.injEq, Obj.cells.injEq, Array.mk.injEq, List.cons.injEq] at h'
  exact h'.1.2.2.1
theorem Ap.half {w w' : World} {b n r : Nat} {base L : Nat → Nat} {K X : Nat → Nat → V} (h : Ap w b r (tT b) (tM b)) (H : Half w b n r base L K X) (hb : Below w.heap.size w w') : Ap w' b r (tT b) (tM b) :=
  h.same (fun j hj => by
    obtain ⟨ord, h1, _⟩ := (H.full j hj).1.tab
    exact hb.block _ (blk_lt h1))
theorem Ap.fill {w w' : World} {b n r : Nat} {base L : Nat → Nat} {K X : Nat → Nat → V} (h : Ap w b r (tT b) (tM b)) (H : Half w b n r base L K X) (hr : r < n) (ho : Only (fun k => k = tT b r ∨ k = tM b r) w w') (hf : Filled w' (tT b r) (tM b r) w.heap.size r (tT b) (K r) (X r) (L r)) : Ap w' b (r + 1) (tT b) (tM b) := by
  have hs := H.size
  have old : ∀ j a o, j < r → TabB w' (tT b j) (tM b j) a o → TabB w (tT b j) (tM b j) a o := fun j a o hj h' => by
    obtain ⟨ord, h1, _⟩ := (H.full j hj).1.tab
    exact (ho.block _ (blk_lt h1) (by unfold tT tM; omega)).symm.trans h'
  have small : ∀ j a o g, j < r → TabB w' (tT b j) (tM b j) a o → o.ownBlock = some g → g < w.heap.size := fun j a o g hj h' hg => by
    obtain ⟨ord, h1, h2⟩ := (H.full j hj).1.tab
    have e := h1.ord (old j a o hj h')
    subst e
    obtain ⟨_, _, _, hk⟩ := owns_form h2
    exact (hk g hg).2
  have big : ∀ a o g, TabB w' (tT b r) (tM b r) a o → o.ownBlock = some g → w.heap.size ≤ g := fun a o g h' hg => by
    obtain ⟨ord, h1, h2⟩ := hf.tab
    have e := h1.ord h'
    subst e
    obtain ⟨_, _, _, hk⟩ := owns_form h2
    exact (hk g hg).1
  refine ⟨fun j _ => by unfold tT; omega, fun j a o g hj ht hg => ?_, fun i j a o a' o' g hi hj h1 h2 g1 g2 => ?_, fun j _ => by unfold tM; omega, fun i j _ _ e => by unfold tM at e; omega⟩
  · by_cases e : j = r
    · subst e; have := big a o g ht hg; omega
    · exact h.own j a o g (by omega) (old j a o (by omega) ht) hg
  · by_cases e : i = r
    · by_cases e' : j = r
      · omega
      · subst e
        have := big a o g h1 g1
        have := small j a' o' g (by omega) h2 g2
        omega
    · by_cases e' : j = r
      · subst e'
        have := big a' o' g h2 g2
        have := small i a o g (by omega) h1 g1
        omega
      · exact h.one i j a o a' o' g (by omega) (by omega) (old i a o (by omega) h1) (old j a' o' (by omega) h2) g1 g2

set_option maxHeartbeats 2000000 in
set_option maxRecDepth 100000 in
/-- 'link': the tables that it makes share no order. -/
theorem link_apart (u : V) (ta : Option Addr) (n cp TB TO : Nat) (A : Nat → Option Addr) (L C RB RO : Nat → Nat) (K X : Nat → Nat → V) (w : World) (hn : n ≤ 1048576)
    (HS : Hid (Small 1048576 n L K X)) (HT : Hid (TabsAt w ta n TB TO A L C RB RO K X)) :
    Calls Try.prog 47 #[.agg #[.int .i64 u.k, .int .i64 u.n, .string u.s, .int .i64 u.a, .slice ta n cp]] w fun e w' =>
      ((OkG n u L K X ∧ e = .returned (.tuple #[.agg #[ifv (tT w.heap.size) u, .slice (some ⟨w.heap.size + 2, 0, none⟩) n n], .bool true]) ∧ (∃ base, Half w' w.heap.size n n base L K X) ∧ Ap w' w.heap.size n (tT w.heap.size) (tM w.heap.size)) ∨ (¬ OkG n u L K X ∧ e = .returned (.tuple #[.agg #[.nilIface, .slice none 0 0], .bool false]))) ∧ Below w.heap.size w w' := by
  obtain ⟨b, hb⟩ : ∃ b, w.heap.size = b := ⟨_, rfl⟩
  have A2 : Hid _ := alloc2 w (.cells #[.int .i64 u.k, .int .i64 u.n, .string u.s, .int .i64 u.a, .slice ta n cp] 32) (.cells #[.nilIface, .slice none 0 0] 70)
  obtain ⟨wa, hwa⟩ : ∃ wa, wa = (w.alloc (.cells #[.int .i64 u.k, .int .i64 u.n, .string u.s, .int .i64 u.a, .slice ta n cp] 32)).alloc (.cells #[.nilIface, .slice none 0 0] 70) := ⟨_, rfl⟩
  have HA : Hid (Ahead w wa #[.int .i64 u.k, .int .i64 u.n, .string u.s, .int .i64 u.a, .slice ta n cp]) := by rw [hwa]; exact ⟨A2.out.1, A2.out.2.1, A2.out.2.2.2⟩
  have hsa : Hid (wa.heap.size = w.heap.size + 2) := by rw [hwa]; exact A2.out.2.2.1
  clear A2
  obtain ⟨g0, g1, g2, g3, g4, _⟩ := cells5 HA.out.graph
  by_cases h200 : n ≤ 200
  · have hmk := run_make_n 68 92 _ 1 8 Try.underlying68 Try.info92 n (by omega) (by omega)
    simp only [Nat.mul_one] at hmk
    have hmm := @run_makeMap Try.prog
    go_enter Try.func47, Try.ntmps47
    go_wp2
    rw [← hwa]
    have hsa' : wa.heap.size = b + 2 := by have := hsa.out; omega
    have HA1 : Hid (Ahead w (wa.alloc (.cells (madeCells #[.pointer none] n) 92)) #[.int .i64 u.k, .int .i64 u.n, .string u.s, .int .i64 u.a, .slice ta n cp]) := by
      have h := HA.out
      exact ⟨(Below.heap_alloc _ _ _ (blk_lt h.graph)).trans h.graph, (Below.heap_alloc _ _ _ (blk_lt h.res)).trans h.res, h.bel.alloc h.bel.size _⟩
    have HL1 : Hid (Laid (wa.alloc (.cells (madeCells #[.pointer none] n) 92)) b n 0) := by
      refine ⟨?_, fun j hj => by omega, by simp; omega⟩
      rw [← hsa']
      exact (row_made wa #[.pointer none] n 92).congr (fun i _ => by rw [if_neg (by omega)]; simp [Nat.mod_one])
    clear hmk hwa g0 g1 g2 g3 g4 hsa' hsa HA
    go_loopw [21] (fun ii wr => ∃ c : Nat, c ≤ n ∧ ii = .int .i64 c ∧ Hid (Laid wr b n c) ∧ Hid (Ahead w wr #[.int .i64 u.k, .int .i64 u.n, .string u.s, .int .i64 u.a, .slice ta n cp])) (fun ii _ => n - (intOf ii).toNat)
    case atStart => exact ⟨0, Nat.zero_le _, rfl, HL1, HA1⟩
    case round =>
      obtain ⟨c, hc, rfl, HL, HAr⟩ := hrel
      clear HL1 HA1
      by_cases hlt : c < n
      · have hs := HL.out.size
        have c0 : ∀ o1 o2, ((wr.alloc o1).alloc o2).cell? ⟨b + 1 + 1, c, none⟩ = some (.pointer none) := fun o1 o2 => by
          have := ((HL.out.row.alloc o1).alloc o2).cell hlt
          rw [if_neg (by omega)] at this
          exact this
        have z0 : ∀ o1 o2 j, ((wr.alloc o1).alloc o2).frozen? ⟨b + 1 + 1, j, none⟩ = false := fun o1 o2 => ((HL.out.row.alloc o1).alloc o2).frozen
        have HN := HL.out.next hlt
        have HA2 : Hid (Ahead w (((wr.alloc (.map #[] 0)).alloc (.cells #[.int .i64 c, .map (some (tM b c)), .slice none 0 0] 95)).setCell ⟨b + 2, c, none⟩ (.pointer (some ⟨tT b c, 0, none⟩))) #[.int .i64 u.k, .int .i64 u.n, .string u.s, .int .i64 u.a, .slice ta n cp]) := by
          have h := HAr.out
          have A := alloc2 wr (.map #[] 0) (.cells #[.int .i64 c, .map (some (tM b c)), .slice none 0 0] 95)
          refine ⟨?_, ?_, ?_⟩
          · rw [Below.heap_setCell _ _ _ _ (show w.heap.size ≠ b + 2 by omega), A.2.2.2.block _ (blk_lt h.graph)]; exact h.graph
          · rw [Below.heap_setCell _ _ _ _ (show w.heap.size + 1 ≠ b + 2 by omega), A.2.2.2.block _ (blk_lt h.res)]; exact h.res
          · exact (grw h.bel A.2.2.2).setCell (by show w.heap.size ≤ b + 2; omega) _
        have HN2 : Hid (Laid (((wr.alloc (.map #[] 0)).alloc (.cells #[.int .i64 c, .map (some (tM b c)), .slice none 0 0] 95)).setCell ⟨b + 2, c, none⟩ (.pointer (some ⟨tT b c, 0, none⟩))) b n (c + 1)) := HN
        clear HN HL HAr
        go_wp2
        go_roundw
        case rel =>
          have e : b + 3 + 2 * c + 1 = b + 4 + 2 * c := by omega
          rw [e]
          exact ⟨c + 1, by omega, by go_num, HN2, HA2⟩
        case measure => simp [intOf]; omega
      · obtain rfl : c = n := by omega
        have HH : Hid (Half wr b c 0 (fun _ => 0) L K X) := HL.out.half
        obtain ⟨g0, g1, g2, g3, g4, _⟩ := cells5 HAr.out.graph
        rw [hb] at g0 g1 g2 g3 g4
        clear HL hmm
        go_wp2
        clear g0 g1 g2 g3 g4
        obtain ⟨wh, hwh⟩ : ∃ wh, wh = wr := ⟨_, rfl⟩
        rw [← hwh] at HH HAr
        go_loopw [35] (fun ii wr => ∃ (r : Nat) (base : Nat → Nat), r ≤ c ∧ ii = .int .i64 r ∧ Hid (Half wr b c r base L K X) ∧ Hid (∀ q, q < r → OkT c (L q) (K q) (X q)) ∧ Hid (Ahead w wr #[.int .i64 u.k, .int .i64 u.n, .string u.s, .int .i64 u.a, .slice ta c cp]) ∧ Hid (Ap wr b r (tT b) (tM b))) (fun ii _ => c - (intOf ii).toNat)
        case atStart => rw [← hwh]; exact ⟨0, _, Nat.zero_le _, rfl, HH, fun q hq => absurd hq (Nat.not_lt_zero _), HAr, Ap.zero _ _ _ _⟩
        case round =>
          obtain ⟨r, base, hr, rfl, HHr, HQ, HAr2, HPr⟩ := hrel
          clear HH HAr hwh
          by_cases hlt : r < c
          · obtain rfl := HT.out.top (by omega)
            have HTr : Hid (TabsAt wr (some ⟨TB, TO, none⟩) c TB TO A L C RB RO K X) := HT.out.below HAr2.out.bel
            have t0 := HTr.out.tab r hlt
            obtain ⟨wv, hwv⟩ : ∃ wv, wv = wr.alloc (.cells #[.slice (A r) (L r) (C r)] 61) := ⟨_, rfl⟩
            have HBv : Hid (Below wr.heap.size wr wv) := by rw [hwv]; exact (Below.refl _ _).alloc (Nat.le_refl _) _
            have HHv : Hid (Half wv b c r base L K X) := HHr.out.below HBv.out
            have hbv : b + 3 + 2 * c ≤ wr.heap.size := HHr.out.size
            have HPv : Hid (Ap wv b r (tT b) (tM b)) := HPr.out.half HHr.out HBv.out
            have HAv : Hid (Ahead w wv #[.int .i64 u.k, .int .i64 u.n, .string u.s, .int .i64 u.a, .slice (some ⟨TB, TO, none⟩) c cp]) := by
              have h := HAr2.out
              exact ⟨(HBv.out.block _ (blk_lt h.graph)).trans h.graph, (HBv.out.block _ (blk_lt h.res)).trans h.res, grw h.bel HBv.out⟩
            have v0 : wv.cell? ⟨wr.heap.size, 0, none⟩ = some (.slice (A r) (L r) (C r)) := by rw [hwv]; exact (one_at (heap_alloc_new wr (.cells #[.slice (A r) (L r) (C r)] 61))).1
            have p0 : wv.cell? ⟨b + 1 + 1, r, none⟩ = some (.pointer (some ⟨b + 4 + 2 * r, 0, none⟩)) := HHv.out.row.cell hlt
            have hfill := fill_any (b + 4 + 2 * r) (b + 3 + 2 * r) r (A r) (L r) (C r) (RB r) (RO r) (K r) (X r) (some ⟨b + 1 + 1, 0, none⟩) (b + 2) c c (tT b) wv.drew (HS.out r hlt).1
              (HHv.out.empty r (Nat.le_refl _) hlt).1 (HHv.out.empty r (Nat.le_refl _) hlt).2 ((HTr.out.below HBv.out.drew).row r hlt) (HHv.out.tabs.below ((Below.refl _ _).drew)) (by omega)
              (show _ → _ from fun h => by have := World.block_lt_of_cell? _ _ ((HT.out.row r hlt).key 0 h).1; simp only at this; omega)
              (show _ → _ from fun _ => by omega) (show ∀ j, _ from fun j hj => by constructor <;> (try unfold tT) <;> (try intro) <;> omega)
            obtain ⟨vb, hvb⟩ : ∃ vb, wr.heap.size = vb := ⟨_, rfl⟩
            rw [hvb] at v0 hbv
            go_wp2
            rw [← hwv]
            clear hwv hvb t0
            have p0d : wv.drew.cell? ⟨b + 1 + 1, r, none⟩ = some (.pointer (some ⟨b + 4 + 2 * r, 0, none⟩)) := p0
            have v0d : wv.drew.cell? ⟨vb, 0, none⟩ = some (.slice (A r) (L r) (C r)) := v0
            have hn1 : ¬ (b + 1 + 1 = b + 4 + 2 * r ∨ b + 1 + 1 = b + 3 + 2 * r) := by omega
            have hn2 : ¬ (vb = b + 4 + 2 * r ∨ vb = b + 3 + 2 * r) := by omega
            go_region_held3 (fun w' => w'.cell? ⟨b + 1 + 1, r, none⟩ = some (.pointer (some ⟨b + 4 + 2 * r, 0, none⟩)) ∧ w'.cell? ⟨vb, 0, none⟩ = some (.slice (A r) (L r) (C r)))
              (first | with_reducible exact S3.out | exact ⟨p0, v0⟩)
              ((go_at_call 77; refine hfill.mono ?_; rintro e w3 ⟨⟨bb, rfl, hbb⟩, hO3, hF3⟩; have S3 : Hid (w3.cell? ⟨b + 1 + 1, r, none⟩ = some (.pointer (some ⟨b + 4 + 2 * r, 0, none⟩)) ∧ w3.cell? ⟨vb, 0, none⟩ = some (.slice (A r) (L r) (C r))) := show _ ∧ _ from ⟨hO3.cell (p := ⟨b + 1 + 1, r, none⟩) p0d hn1, hO3.cell (p := ⟨vb, 0, none⟩) v0d hn2⟩))
            clear hfill p0 v0 p0d v0d S3 hn1 hn2
            have HA3 : Hid (Ahead w w3 #[.int .i64 u.k, .int .i64 u.n, .string u.s, .int .i64 u.a, .slice (some ⟨TB, TO, none⟩) c cp]) := (show Ahead w wv.drew _ from HAv.out.below ((Below.refl _ _).drew)).only hO3 (fun k h => by omega)
            cases bb
            · have HN : Hid (¬ OkG c u L K X) := show ¬ OkG c u L K X from fun h => by have := hbb.2 (h.all r hlt); cases this
              clear hF3 hbb hO3
              have R0 : Hid (w3.heap[b + 1]? = some (.cells #[.nilIface, .slice none 0 0] 70 (0, 0))) := by rw [← hb]; exact HA3.out.res
              obtain ⟨r0, r1, rz⟩ := two_at R0.out
              go_wp2
              have R1 := two_put R0.out .nilIface (.slice none 0 0)
              obtain ⟨q0, q1, _⟩ := two_at R1
              refine bodyPost_ret (v := .tuple #[.agg #[.nilIface, .slice none 0 0], .bool false]) (by simp [results, Try.results47, go_sem, q0, q1]) rfl ⟨Or.inr ⟨HN.out, rfl⟩, ?_⟩
              exact (HA3.out.bel.setCell (by show w.heap.size ≤ b + 1; omega) _).setCell (by show w.heap.size ≤ b + 1; omega) _
            · have HF : Hid (Filled w3 (tT b r) (tM b r) wv.heap.size r (tT b) (K r) (X r) (L r)) := hF3 (hbb.1 rfl)
              have HH3 : Hid (Half w3 b c (r + 1) (fun j => if j = r then wv.heap.size else base j) L K X) := HHv.out.fill hlt (show Only _ wv w3 from ⟨hO3.os, hO3.tape, hO3.output, hO3.size, hO3.block⟩) HF.out
              have HQ3 : Hid (∀ q, q < r + 1 → OkT c (L q) (K q) (X q)) := show ∀ q, q < r + 1 → _ from fun q hq => by
                by_cases e : q = r
                · subst e; exact hbb.1 rfl
                · exact HQ.out q (by omega)
              have HP3 : Hid (Ap w3 b (r + 1) (tT b) (tM b)) := HPv.out.fill HHv.out hlt (show Only _ wv w3 from ⟨hO3.os, hO3.tape, hO3.output, hO3.size, hO3.block⟩) HF.out
              clear hF3 hbb hO3 HF HQ
              go_wp2
              go_roundw
              case rel => exact ⟨r + 1, _, by omega, by go_num, HH3, HQ3, HA3, HP3⟩
              case measure => simp [intOf]; omega
          · obtain rfl : r = c := by omega
            obtain ⟨g0, g1, g2, g3, g4, _⟩ := cells5 HAr2.out.graph
            rw [hb] at g0 g1 g2 g3 g4
            have hof := of_any u (some ⟨b + 1 + 1, 0, none⟩) (b + 2) r r (tT b) wr HHr.out.tabs
            obtain ⟨bu, hbu⟩ : ∃ x, isV r u = x := ⟨_, rfl⟩
            rw [hbu] at hof
            go_wp2_with fail
            refine hof.mono ?_
            clear hof
            rintro e w3 ⟨rfl, hb3⟩
            have HA3 : Hid (Ahead w w3 #[.int .i64 u.k, .int .i64 u.n, .string u.s, .int .i64 u.a, .slice ta r cp]) := HAr2.out.below hb3
            have HH3 : Hid (Half w3 b r r base L K X) := HHr.out.below hb3
            have HP3 : Hid (Ap w3 b r (tT b) (tM b)) := HPr.out.half HHr.out hb3
            clear hb3 HAr2 HHr g0 g1 g2 g3 g4
            have R0 : Hid (w3.heap[b + 1]? = some (.cells #[.nilIface, .slice none 0 0] 70 (0, 0))) := by rw [← hb]; exact HA3.out.res
            obtain ⟨r0, r1, rz⟩ := two_at R0.out
            cases bu
            · have HN : Hid (¬ OkG r u L K X) := show ¬ OkG r u L K X from fun h => by have := h.root; rw [hbu] at this; cases this
              clear hbu
              go_wp2
              have R1 := two_put R0.out .nilIface (.slice none 0 0)
              obtain ⟨q0, q1, _⟩ := two_at R1
              refine bodyPost_ret (v := .tuple #[.agg #[.nilIface, .slice none 0 0], .bool false]) (by simp [results, Try.results47, go_sem, q0, q1]) rfl ⟨Or.inr ⟨HN.out, rfl⟩, ?_⟩
              exact (HA3.out.bel.setCell (by show w.heap.size ≤ b + 1; omega) _).setCell (by show w.heap.size ≤ b + 1; omega) _
            · have HG : Hid (OkG r u L K X) := show OkG r u L K X from ⟨h200, hbu, HQ.out⟩
              obtain ⟨xt, xy, hxv⟩ := ifv_form (tT b) u
              have HXV : Hid (ifv (tT b) u = .iface xt xy) := hxv
              rw [if_pos rfl, HXV.out]
              clear hxv
              clear hbu
              go_wp2
              have R1 := two_put R0.out (.iface xt xy) (.slice (some ⟨b + 1 + 1, 0, none⟩) r r)
              obtain ⟨q0, q1, _⟩ := two_at R1
              refine bodyPost_ret (v := .tuple #[.agg #[.iface xt xy, .slice (some ⟨b + 1 + 1, 0, none⟩) r r], .bool true]) (by simp [results, Try.results47, go_sem, q0, q1]) rfl ⟨Or.inl ⟨HG.out, ?_, ⟨base, ?_⟩, ?_⟩, ?_⟩
              · rw [hb, HXV.out]
              · rw [hb]
                have h := HH3.out
                have k1 : ∀ k, k ≠ b + 1 → (((w3.setCell ⟨b + 1, 0, none⟩ (.iface xt xy)).setCell ⟨b + 1, 1, none⟩ (.slice (some ⟨b + 1 + 1, 0, none⟩) r r))).heap[k]? = w3.heap[k]? := fun k hk => by
                  rw [Below.heap_setCell _ _ _ _ (show k ≠ b + 1 from hk), Below.heap_setCell _ _ _ _ (show k ≠ b + 1 from hk)]
                have ho : Only (fun k => k = b + 1) w3 (((w3.setCell ⟨b + 1, 0, none⟩ (.iface xt xy)).setCell ⟨b + 1, 1, none⟩ (.slice (some ⟨b + 1 + 1, 0, none⟩) r r))) := ⟨rfl, rfl, rfl, by simp [World.setCell], fun k _ hk => k1 k hk⟩
                refine ⟨h.row.of_block (k1 _ (by omega)), fun j hj => ⟨(h.full j hj).1.only ho (by unfold tT; omega) (by unfold tM; omega) (fun g hg => by have := (h.full j hj).2; omega), (h.full j hj).2⟩, fun j h1 h2 => by omega, ?_⟩
                have := h.size
                simp [World.setCell]
                omega
              · rw [hb]
                exact HP3.out.same (fun j hj => by
                  rw [Below.heap_setCell _ _ _ _ (show tT b j ≠ b + 1 by unfold tT; omega), Below.heap_setCell _ _ _ _ (show tT b j ≠ b + 1 by unfold tT; omega)])
              · exact (HA3.out.bel.setCell (by show w.heap.size ≤ b + 1; omega) _).setCell (by show w.heap.size ≤ b + 1; omega) _
  · have HN : Hid (¬ OkG n u L K X) := show ¬ OkG n u L K X from fun h => h200 h.len
    have hgt : 200 < n := by omega
    have R0 : Hid (wa.heap[b + 1]? = some (.cells #[.nilIface, .slice none 0 0] 70 (0, 0))) := by rw [← hb]; exact HA.out.res
    obtain ⟨r0, r1, rz⟩ := two_at R0.out
    rw [hb] at g0 g1 g2 g3 g4
    go_enter Try.func47, Try.ntmps47
    go_wp2
    rw [← hwa]
    refine bodyPost_ret (v := .tuple #[.agg #[.nilIface, .slice none 0 0], .bool false]) (by simp [results, Try.results47, go_sem, r0, r1]) rfl ⟨Or.inr ⟨HN.out, rfl⟩, HA.out.bel⟩

end Go.Proofs.Ytgflalfiopnmnab

namespace Go.Proofs.Ytgflalfiopnmnab
open Go.RowKit Vl

theorem nanI_any (a : Int) (w : World) : Calls Try.prog 80 #[.int .i64 a] w fun e w' => e = .returned (.bool false) ∧ w' = w := by
  go_enter Try.func80, Try.ntmps80
  go_wp2
  go_ret
  exact ⟨by simp, rfl⟩
theorem nanL_any (a : Int) (w : World) : Calls Try.prog 81 #[.int .i64 a] w fun e w' => e = .returned (.bool false) ∧ w' = w := by
  go_enter Try.func81, Try.ntmps81
  go_wp2
  go_ret
  exact ⟨by simp, rfl⟩
theorem nanS_any (a : ByteArray) (w : World) : Calls Try.prog 82 #[.string a] w fun e w' => e = .returned (.bool false) ∧ w' = w := by
  go_enter Try.func82, Try.ntmps82
  go_wp2
  go_ret
  exact ⟨by simp, rfl⟩

theorem cmpI_any (a b : Int) (w : World) : Calls Try.prog 52 #[.int .i64 a, .int .i64 b] w fun e w' => e = .returned (.int .i64 (cmpI a b)) ∧ w' = w := by
  unfold cmpI
  by_cases h1 : a < b
  · rw [if_pos h1]
    go_enter Try.func52, Try.ntmps52
    go_wp2_with (go_at_call 80; refine (nanI_any _ _).mono ?_; rintro e w' ⟨rfl, rfl⟩)
    go_ret
    exact ⟨rfl, rfl⟩
  · rw [if_neg h1]
    by_cases h2 : b < a
    · rw [if_pos h2]
      go_enter Try.func52, Try.ntmps52
      go_wp2_with (go_at_call 80; refine (nanI_any _ _).mono ?_; rintro e w' ⟨rfl, rfl⟩)
      go_ret
      exact ⟨rfl, rfl⟩
    · rw [if_neg h2]
      go_enter Try.func52, Try.ntmps52
      go_wp2_with (go_at_call 80; refine (nanI_any _ _).mono ?_; rintro e w' ⟨rfl, rfl⟩)
      go_ret
      exact ⟨rfl, rfl⟩

theorem cmpL_any (a b : Int) (w : World) : Calls Try.prog 53 #[.int .i64 a, .int .i64 b] w fun e w' => e = .returned (.int .i64 (cmpI a b)) ∧ w' = w := by
  unfold cmpI
  by_cases h1 : a < b
  · rw [if_pos h1]
    go_enter Try.func53, Try.ntmps53
    go_wp2_with (go_at_call 81; refine (nanL_any _ _).mono ?_; rintro e w' ⟨rfl, rfl⟩)
    go_ret
    exact ⟨rfl, rfl⟩
  · rw [if_neg h1]
    by_cases h2 : b < a
    · rw [if_pos h2]
      go_enter Try.func53, Try.ntmps53
      go_wp2_with (go_at_call 81; refine (nanL_any _ _).mono ?_; rintro e w' ⟨rfl, rfl⟩)
      go_ret
      exact ⟨rfl, rfl⟩
    · rw [if_neg h2]
      go_enter Try.func53, Try.ntmps53
      go_wp2_with (go_at_call 81; refine (nanL_any _ _).mono ?_; rintro e w' ⟨rfl, rfl⟩)
      go_ret
      exact ⟨rfl, rfl⟩

theorem cmpS_any (a b : ByteArray) (w : World) : Calls Try.prog 54 #[.string a, .string b] w fun e w' => e = .returned (.int .i64 (cmpS a b)) ∧ w' = w := by
  unfold cmpS
  obtain ⟨b1, h1⟩ : ∃ x, Op.bytesLess a.toList b.toList = x := ⟨_, rfl⟩
  obtain ⟨b2, h2⟩ : ∃ x, (a.toList == b.toList) = x := ⟨_, rfl⟩
  rw [h2, h1]
  cases b1 <;> cases b2
  all_goals
    go_enter Try.func54, Try.ntmps54
    go_wp2_with (go_at_call 82; refine (nanS_any _ _).mono ?_; rintro e w' ⟨rfl, rfl⟩)
    go_ret
    exact ⟨rfl, rfl⟩

def or3 (a b c : Int) (j : Nat) : Int := if j = 0 then a else if j = 1 then b else c

theorem or_any (a b c : Int) (B : Nat) (w : World) (h0 : w.cell? ⟨B, 0, none⟩ = some (.int .i64 a)) (h1 : w.cell? ⟨B, 1, none⟩ = some (.int .i64 b)) (h2 : w.cell? ⟨B, 2, none⟩ = some (.int .i64 c)) :
    Calls Try.prog 51 #[.slice (some ⟨B, 0, none⟩) 3 3] w fun e w' => e = .returned (.int .i64 (orI a b c)) ∧ w' = w := by
  have H : Hid (∀ j, j < 3 → w.cell? ⟨B, j, none⟩ = some (.int .i64 (or3 a b c j))) := show ∀ j, j < 3 → _ from fun j hj => by
    rcases (by omega : j = 0 ∨ j = 1 ∨ j = 2) with rfl | rfl | rfl
    · exact h0
    · exact h1
    · exact h2
  obtain ⟨r, HR⟩ : ∃ r, Hid (orI a b c = r) := ⟨_, rfl⟩
  rw [HR.out]
  clear h0 h1 h2
  go_enter Try.func51, Try.ntmps51
  go_wp2
  go_loop [8] (fun i => ∃ k : Nat, k ≤ 3 ∧ i = .int .i64 k ∧ Hid (∀ j, j < k → or3 a b c j = 0)) (fun i => 3 - (intOf i).toNat)
  case atStart => exact ⟨0, by omega, rfl, fun j hj => absurd hj (Nat.not_lt_zero _)⟩
  case round =>
    obtain ⟨k, hk, rfl, HZ⟩ := hrel
    by_cases hlt : k < 3
    · have hc := H.out k hlt
      obtain ⟨x, HX⟩ : ∃ x, Hid (or3 a b c k = x) := ⟨_, rfl⟩
      rw [HX.out] at hc
      by_cases hx : x = 0
      · subst hx
        have HZ' : Hid (∀ j, j < k + 1 → or3 a b c j = 0) := show ∀ j, j < k + 1 → or3 a b c j = 0 from fun j hj => by
          by_cases e : j = k
          · subst e; exact HX.out
          · exact HZ.out j (by omega)
        clear HZ HX
        go_wp2
        go_round
        case rel => exact ⟨k + 1, by omega, by go_num, HZ'⟩
        case measure => simp [intOf]; omega
      · have hr : Hid (x = r) := by
          rw [← HX.out, ← HR.out]
          have z := HZ.out
          rcases (by omega : k = 0 ∨ k = 1 ∨ k = 2) with rfl | rfl | rfl
          · have : a ≠ 0 := by rw [← HX.out] at hx; exact hx
            show or3 a b c 0 = orI a b c
            simp [orI, or3, this]
          · have e0 : a = 0 := z 0 (by omega)
            have : b ≠ 0 := by rw [← HX.out] at hx; exact hx
            show or3 a b c 1 = orI a b c
            simp [orI, or3, this, e0]
          · have e0 : a = 0 := z 0 (by omega)
            have e1 : b = 0 := z 1 (by omega)
            show or3 a b c 2 = orI a b c
            simp [orI, or3, e0, e1]
        have hne : (x != 0) = true := by simpa using hx
        clear HZ HX hx
        go_wp2
        go_ret
        exact ⟨by rw [← hr.out]; rfl, rfl⟩
    · have hr : Hid (0 = r) := by
        rw [← HR.out]
        have z := HZ.out
        have e0 : a = 0 := z 0 (by omega)
        have e1 : b = 0 := z 1 (by omega)
        have e2 : c = 0 := z 2 (by omega)
        show 0 = orI a b c
        simp [orI, e0, e1, e2]
      clear HZ
      go_wp2
      go_ret
      exact ⟨by rw [← hr.out]; rfl, rfl⟩

end Go.Proofs.Ytgflalfiopnmnab

namespace Go.Proofs.Ytgflalfiopnmnab
open Go.RowKit Vl

set_option maxHeartbeats 1000000 in
set_option maxRecDepth 100000 in
/-- 'impl.KeyOrder'. -/
theorem implKo_any (u v : V) (w : World) :
    Calls Try.prog 19 #[.agg #[.int .i64 u.k, .int .i64 u.n, .string u.s, .int .i64 u.a], .agg #[.int .i64 v.k, .int .i64 v.n, .string v.s, .int .i64 v.a]] w fun e w' => e = .returned (.int .i64 (ko u v)) ∧ Below w.heap.size w w' := by
  have hb0 : Hid _ := boxes w u v
  by_cases h1 : isK u = true
  · by_cases h2 : isK v = true
    · have HK : Hid (orI (cmpI u.k v.k) (cmpI u.n v.n) (cmpS u.s v.s) = ko u v) := ko_eq h1 h2
      rw [← HK.out]
      go_enter Try.func19, Try.ntmps19
      go_wp2_with fail
      refine (isKey_any u _).mono ?_
      rintro e w1 ⟨rfl, hb1⟩
      rw [h1]
      have hv1 : ValAt w1 (w.heap.size + 1) 0 v.k v.n v.s v.a := by
        have := (ValAt.new (w.alloc (Obj.cells #[.int .i64 u.k, .int .i64 u.n, .string u.s, .int .i64 u.a] 29)) v.k v.n v.s v.a).below hb1
        simpa using this
      have hu1 : ValAt w1 w.heap.size 0 u.k u.n u.s u.a := ((ValAt.new w u.k u.n u.s u.a).below ((Below.refl _ _).alloc (Nat.le_refl _) _)).below hb1
      have hB1 : Hid (Below w.heap.size w w1) := grw hb0.out hb1
      clear hb1
      have d0 := hv1.1; have d1 := hv1.2.1; have d2 := hv1.2.2.1; have d3 := hv1.2.2.2
      simp only [Nat.zero_add] at d1 d2 d3
      go_wp2_with fail
      refine (isKey_any v _).mono ?_
      rintro e w2 ⟨rfl, hb2⟩
      rw [h2]
      have hv2 := hv1.below hb2
      have hu2 := hu1.below hb2
      have hB2 : Hid (Below w.heap.size w w2) := grw hB1.out hb2
      clear d0 d1 d2 d3 hv1 hu1 hB1 hb2 hb0 HK h1 h2
      have d0 := hv2.1; have d1 := hv2.2.1; have d2 := hv2.2.2.1; have d3 := hv2.2.2.2
      have c0 := hu2.1; have c1 := hu2.2.1; have c2 := hu2.2.2.1; have c3 := hu2.2.2.2
      simp only [Nat.zero_add] at d1 d2 d3 c1 c2 c3
      clear hv2 hu2
      have hl : w.heap.size < w2.heap.size := World.block_lt_of_cell? _ _ c0
      have hl' : w.heap.size + 1 < w2.heap.size := World.block_lt_of_cell? _ _ d0
      go_wp2
      go_region_held3 (fun w' => w'.cell? ⟨w.heap.size, 0, none⟩ = some (.int .i64 u.k) ∧ w'.cell? ⟨w.heap.size, 1, none⟩ = some (.int .i64 u.n) ∧ w'.cell? ⟨w.heap.size, 2, none⟩ = some (.string u.s) ∧ w'.cell? ⟨w.heap.size + 1, 0, none⟩ = some (.int .i64 v.k) ∧ w'.cell? ⟨w.heap.size + 1, 1, none⟩ = some (.int .i64 v.n) ∧ w'.cell? ⟨w.heap.size + 1, 2, none⟩ = some (.string v.s))
        (first | exact ⟨c0, c1, c2, d0, d1, d2⟩ | go_keep)
        (first
          | (go_at_call 52; refine (cmpI_any _ _ _).mono ?_; rintro e w' ⟨rfl, rfl⟩)
          | (go_at_call 53; refine (cmpL_any _ _ _).mono ?_; rintro e w' ⟨rfl, rfl⟩)
          | (go_at_call 54; refine (cmpS_any _ _ _).mono ?_; rintro e w' ⟨rfl, rfl⟩)
          | (go_at_call 51; refine (or_any _ _ _ _ _ (World.cell?_alloc_new _ _ _ _) (World.cell?_alloc_new _ _ _ _) (World.cell?_alloc_new _ _ _ _)).mono ?_; rintro e w' ⟨rfl, rfl⟩))
      go_wp2
      go_ret
      exact ⟨rfl, (hB2.out.alloc (Nat.le_of_lt hl) _).drew⟩
    · have h2' : isK v = false := by simpa using h2
      have HK : Hid (ko u v = 2) := show ko u v = 2 by unfold ko; rw [h2', Bool.and_false, if_neg (by simp)]
      rw [HK.out]
      go_enter Try.func19, Try.ntmps19
      go_wp2_with fail
      refine (isKey_any u _).mono ?_
      rintro e w1 ⟨rfl, hb1⟩
      rw [h1]
      have hv1 : ValAt w1 (w.heap.size + 1) 0 v.k v.n v.s v.a := by
        have := (ValAt.new (w.alloc (Obj.cells #[.int .i64 u.k, .int .i64 u.n, .string u.s, .int .i64 u.a] 29)) v.k v.n v.s v.a).below hb1
        simpa using this
      have hB1 : Hid (Below w.heap.size w w1) := grw hb0.out hb1
      clear hb1
      have d0 := hv1.1; have d1 := hv1.2.1; have d2 := hv1.2.2.1; have d3 := hv1.2.2.2
      simp only [Nat.zero_add] at d1 d2 d3
      go_wp2_with fail
      refine (isKey_any v _).mono ?_
      rintro e w2 ⟨rfl, hb2⟩
      rw [h2']
      go_wp2
      go_ret
      exact ⟨rfl, grw hB1.out hb2⟩
  · have h1' : isK u = false := by simpa using h1
    have HK : Hid (ko u v = 2) := show ko u v = 2 by unfold ko; rw [h1', Bool.false_and, if_neg (by simp)]
    rw [HK.out]
    go_enter Try.func19, Try.ntmps19
    go_wp2_with fail
    refine (isKey_any u _).mono ?_
    rintro e w1 ⟨rfl, hb1⟩
    rw [h1']
    go_wp2
    go_ret
    exact ⟨rfl, grw hb0.out hb1⟩

end Go.Proofs.Ytgflalfiopnmnab

namespace Go.Proofs.Ytgflalfiopnmnab.Dr
open Go.RowKit Vl Go.Proofs.Ytgflalfiopnmnab Go.Sort

/-- What lay there lies there, and no draw is taken back. -/
structure Below (B : Nat) (w w' : World) : Prop where
  b : Go.RowKit.Below B w w'
  d : w.drawn ≤ w'.drawn
theorem Below.refl (B : Nat) (w : World) : Below B w w := ⟨Go.RowKit.Below.refl _ _, Nat.le_refl _⟩
theorem Below.trans {B : Nat} {a b c : World} (h : Below B a b) (k : Below B b c) : Below B a c := ⟨h.b.trans k.b, Nat.le_trans h.d k.d⟩
theorem Below.mono {B B' : Nat} {w w' : World} (h : Below B w w') (hB : B' ≤ B) : Below B' w w' := ⟨h.b.mono hB, h.d⟩
theorem Below.drew {B : Nat} {a w : World} (h : Below B a w) : Below B a w.drew := ⟨h.b.drew, Nat.le_succ_of_le h.d⟩
theorem Below.alloc {B : Nat} {a w : World} (h : Below B a w) (hB : B ≤ w.heap.size) (o : Obj) : Below B a (w.alloc o) := ⟨h.b.alloc hB o, h.d⟩
theorem Below.cell {B : Nat} {w w' : World} (h : Below B w w') {p : Addr} (hp : p.block < B) : w'.cell? p = w.cell? p := h.b.cell hp
theorem Below.size {B : Nat} {w w' : World} (h : Below B w w') : w.heap.size ≤ w'.heap.size := h.b.size
theorem below_drewN {B : Nat} {a w : World} (h : Below B a w) (n : Nat) : Below B a (w.drewN n) := ⟨Go.RowKit.Below.trans h.b ⟨rfl, rfl, rfl, Nat.le_refl _, fun _ _ => rfl⟩, Nat.le_trans h.d (Nat.le_add_right _ _)⟩

theorem grw {a b c : World} (h : Below a.heap.size a b) (k : Below b.heap.size b c) : Below a.heap.size a c := h.trans (k.mono h.size)

/-- What a value of an interface says of itself: nothing. -/
theorem asNil_any (w : World) :
    Calls Try.prog 152 #[.agg #[]] w fun e w' => e = .returned (.agg #[.int .i64 0, .int .i64 0, .string ⟨#[]⟩, .int .i64 0]) ∧ Below w.heap.size w w' := by
  go_enter Try.func152, Try.ntmps152
  go_wp2
  refine bodyPost_ret (v := .agg #[.int .i64 0, .int .i64 0, .string ⟨#[]⟩, .int .i64 0]) (by simp [results, Try.results152, go_sem]) rfl ⟨rfl, ?_⟩
  exact ((Below.refl _ _).alloc (Nat.le_refl _) _).alloc (by simp) _

theorem asBool_any (b : Bool) (w : World) :
    Calls Try.prog 149 #[.agg #[.bool b]] w fun e w' => e = .returned (.agg #[.int .i64 1, .int .i64 (if b then 1 else 0), .string ⟨#[]⟩, .int .i64 0]) ∧ Below w.heap.size w w' := by
  cases b
  all_goals
    go_enter Try.func149, Try.ntmps149
    go_wp2
  · refine bodyPost_ret (v := .agg #[.int .i64 1, .int .i64 0, .string ⟨#[]⟩, .int .i64 0]) (by simp [results, Try.results149, go_sem]) rfl ⟨rfl, ?_⟩
    exact ((Below.refl _ _).alloc (Nat.le_refl _) _).alloc (by simp) _
  · refine bodyPost_ret (v := .agg #[.int .i64 1, .int .i64 1, .string ⟨#[]⟩, .int .i64 0]) (by simp [results, Try.results149, go_sem]) rfl ⟨rfl, ?_⟩
    exact ((Below.refl _ _).alloc (Nat.le_refl _) _).alloc (by simp) _

theorem asInt_any (n : Int) (w : World) :
    Calls Try.prog 150 #[.agg #[.int .i64 n]] w fun e w' => e = .returned (.agg #[.int .i64 2, .int .i64 n, .string ⟨#[]⟩, .int .i64 0]) ∧ Below w.heap.size w w' := by
  go_enter Try.func150, Try.ntmps150
  go_wp2
  refine bodyPost_ret (v := .agg #[.int .i64 2, .int .i64 n, .string ⟨#[]⟩, .int .i64 0]) (by simp [results, Try.results150, go_sem]) rfl ⟨rfl, ?_⟩
  exact ((Below.refl _ _).alloc (Nat.le_refl _) _).alloc (by simp) _

theorem asText_any (s : ByteArray) (w : World) :
    Calls Try.prog 151 #[.agg #[.string s]] w fun e w' => e = .returned (.agg #[.int .i64 3, .int .i64 0, .string s, .int .i64 0]) ∧ Below w.heap.size w w' := by
  go_enter Try.func151, Try.ntmps151
  go_wp2
  refine bodyPost_ret (v := .agg #[.int .i64 3, .int .i64 0, .string s, .int .i64 0]) (by simp [results, Try.results151, go_sem]) rfl ⟨rfl, ?_⟩
  exact ((Below.refl _ _).alloc (Nat.le_refl _) _).alloc (by simp) _

theorem asTab_any (b : Nat) (i : Int) (w : World) (h : w.cell? ⟨b, 0, none⟩ = some (.int .i64 i)) :
    Calls Try.prog 148 #[.pointer (some ⟨b, 0, none⟩)] w fun e w' => e = .returned (.agg #[.int .i64 4, .int .i64 0, .string ⟨#[]⟩, .int .i64 i]) ∧ Below w.heap.size w w' := by
  have hlt : b < w.heap.size := World.block_lt_of_cell? _ _ h
  go_enter Try.func148, Try.ntmps148
  go_wp2
  refine bodyPost_ret (v := .agg #[.int .i64 4, .int .i64 0, .string ⟨#[]⟩, .int .i64 i]) (by simp [results, Try.results148, go_sem]) rfl ⟨rfl, ?_⟩
  exact (Below.refl _ _).alloc (Nat.le_refl _) _

/-- Tables that stand in a row: number i lies at T i and says so. -/
structure Tabs (w : World) (ta : Option Addr) (tb n : Nat) (T : Nat → Nat) : Prop where
  top : 0 < n → ta = some ⟨tb, 0, none⟩
  ptr : ∀ i, i < n → w.cell? ⟨tb, i, none⟩ = some (.pointer (some ⟨T i, 0, none⟩))
  at_ : ∀ i, i < n → w.cell? ⟨T i, 0, none⟩ = some (.int .i64 i)

theorem Tabs.below {w w' : World} {ta : Option Addr} {tb n : Nat} {T : Nat → Nat} (h : Tabs w ta tb n T) (hb : Below w.heap.size w w') : Tabs w' ta tb n T :=
  ⟨h.top, fun i hi => (hb.cell (p := ⟨tb, i, none⟩) (World.block_lt_of_cell? _ _ (h.ptr i hi))).trans (h.ptr i hi),
   fun i hi => (hb.cell (p := ⟨T i, 0, none⟩) (World.block_lt_of_cell? _ _ (h.at_ i hi))).trans (h.at_ i hi)⟩

theorem Tabs.nil (w : World) : Tabs w none 0 0 (fun _ => 0) := ⟨fun h => by omega, fun i h => by omega, fun i h => by omega⟩

/-- A value as it is held. -/
def ifv (T : Nat → Nat) (v : V) : Value :=
  if v.k = 0 then .iface 152 (.agg #[])
  else if v.k = 1 then .iface 132 (.agg #[.bool (v.n == 1)])
  else if v.k = 2 then .iface 134 (.agg #[.int .i64 v.n])
  else if v.k = 3 then .iface 136 (.agg #[.string v.s])
  else .iface 92 (.pointer (some ⟨T v.a.toNat, 0, none⟩))

theorem nf_0 (n : Int) (s : ByteArray) (a : Int) (ta : Option Addr) (m cp : Nat) (w : World) :
    Calls Try.prog 102 #[.agg #[.int .i64 0, .int .i64 n, .string s, .int .i64 a], .slice ta m cp] w fun e w' => e = .returned (.tuple #[.iface 152 (.agg #[]), .bool true]) ∧ Below w.heap.size w w' := by
  go_enter Try.func102, Try.ntmps102
  go_wp2
  go_ret2
  exact ⟨rfl, (Below.refl _ _).alloc (Nat.le_refl _) _⟩

theorem nf_1 (n : Int) (s : ByteArray) (a : Int) (ta : Option Addr) (m cp : Nat) (w : World) :
    Calls Try.prog 102 #[.agg #[.int .i64 1, .int .i64 n, .string s, .int .i64 a], .slice ta m cp] w fun e w' => e = .returned (.tuple #[.iface 132 (.agg #[.bool (n == 1)]), .bool true]) ∧ Below w.heap.size w w' := by
  go_enter Try.func102, Try.ntmps102
  go_wp2
  go_ret2
  exact ⟨rfl, (Below.refl _ _).alloc (Nat.le_refl _) _⟩

theorem nf_2 (n : Int) (s : ByteArray) (a : Int) (ta : Option Addr) (m cp : Nat) (w : World) :
    Calls Try.prog 102 #[.agg #[.int .i64 2, .int .i64 n, .string s, .int .i64 a], .slice ta m cp] w fun e w' => e = .returned (.tuple #[.iface 134 (.agg #[.int .i64 n]), .bool true]) ∧ Below w.heap.size w w' := by
  go_enter Try.func102, Try.ntmps102
  go_wp2
  go_ret2
  exact ⟨rfl, (Below.refl _ _).alloc (Nat.le_refl _) _⟩

theorem nf_3 (n : Int) (s : ByteArray) (a : Int) (ta : Option Addr) (m cp : Nat) (w : World) :
    Calls Try.prog 102 #[.agg #[.int .i64 3, .int .i64 n, .string s, .int .i64 a], .slice ta m cp] w fun e w' => e = .returned (.tuple #[.iface 136 (.agg #[.string s]), .bool (decide ((s.size : Int) ≤ 500))]) ∧ Below w.heap.size w w' := by
  go_enter Try.func102, Try.ntmps102
  go_wp2
  go_quiet (fail)
  go_wp2
  go_ret2
  exact ⟨rfl, below_drewN ((Below.refl _ _).alloc (Nat.le_refl _) _) nq⟩

theorem nf_4 (n : Int) (s : ByteArray) (a : Int) (ta : Option Addr) (tb m cp : Nat) (T : Nat → Nat) (w : World) (h0 : 0 ≤ a) (h1 : a < m) (H : Hid (Tabs w ta tb m T)) :
    Calls Try.prog 102 #[.agg #[.int .i64 4, .int .i64 n, .string s, .int .i64 a], .slice ta m cp] w fun e w' => e = .returned (.tuple #[.iface 92 (.pointer (some ⟨T a.toNat, 0, none⟩)), .bool true]) ∧ Below w.heap.size w w' := by
  obtain ⟨j, rfl⟩ : ∃ j : Nat, a = j := ⟨a.toNat, by omega⟩
  obtain rfl := H.out.top (by omega)
  have hp := H.out.ptr j (by omega)
  have hlt : tb < w.heap.size := World.block_lt_of_cell? _ _ hp
  go_enter Try.func102, Try.ntmps102
  go_wp2
  go_ret2
  exact ⟨rfl, (Below.refl _ _).alloc (Nat.le_refl _) _⟩

theorem nf_4no (n : Int) (s : ByteArray) (a : Int) (ta : Option Addr) (m cp : Nat) (w : World) (h : ¬ (0 ≤ a ∧ a < m)) :
    Calls Try.prog 102 #[.agg #[.int .i64 4, .int .i64 n, .string s, .int .i64 a], .slice ta m cp] w fun e w' => e = .returned (.tuple #[.nilIface, .bool false]) ∧ Below w.heap.size w w' := by
  by_cases h0 : 0 ≤ a
  · have h1 : ¬ a < m := fun h1 => h ⟨h0, h1⟩
    go_enter Try.func102, Try.ntmps102
    go_wp2
    go_ret2
    exact ⟨rfl, (Below.refl _ _).alloc (Nat.le_refl _) _⟩
  · go_enter Try.func102, Try.ntmps102
    go_wp2
    go_ret2
    exact ⟨rfl, (Below.refl _ _).alloc (Nat.le_refl _) _⟩

theorem nf_no (k n : Int) (s : ByteArray) (a : Int) (ta : Option Addr) (m cp : Nat) (w : World) (h0 : (k == 0) = false) (h1 : (k == 1) = false) (h2 : (k == 2) = false) (h3 : (k == 3) = false) (h4 : (k == 4) = false) :
    Calls Try.prog 102 #[.agg #[.int .i64 k, .int .i64 n, .string s, .int .i64 a], .slice ta m cp] w fun e w' => e = .returned (.tuple #[.nilIface, .bool false]) ∧ Below w.heap.size w w' := by
  go_enter Try.func102, Try.ntmps102
  go_wp2
  go_ret2
  exact ⟨rfl, (Below.refl _ _).alloc (Nat.le_refl _) _⟩

/-- The four cells of a value. -/
def ValAt (w : World) (b o : Nat) (k n : Int) (s : ByteArray) (a : Int) : Prop :=
  w.cell? ⟨b, o, none⟩ = some (.int .i64 k) ∧ w.cell? ⟨b, o + 1, none⟩ = some (.int .i64 n) ∧ w.cell? ⟨b, o + 2, none⟩ = some (.string s) ∧ w.cell? ⟨b, o + 3, none⟩ = some (.int .i64 a)

theorem ValAt.below {w w' : World} {b o : Nat} {k n : Int} {s : ByteArray} {a : Int} (h : ValAt w b o k n s a) (hb : Below w.heap.size w w') : ValAt w' b o k n s a := by
  have hlt : b < w.heap.size := World.block_lt_of_cell? _ _ h.1
  exact ⟨(hb.cell hlt).trans h.1, (hb.cell hlt).trans h.2.1, (hb.cell hlt).trans h.2.2.1, (hb.cell hlt).trans h.2.2.2⟩

theorem ValAt.new (w : World) (k n : Int) (s : ByteArray) (a : Int) : ValAt (w.alloc (Obj.cells #[.int .i64 k, .int .i64 n, .string s, .int .i64 a] 29)) w.heap.size 0 k n s a := by
  refine ⟨?_, ?_, ?_, ?_⟩ <;> simp [World.cell?_alloc_new]

theorem neq_val (k n : Int) (s : ByteArray) (a : Int) (k' n' : Int) (s' : ByteArray) (a' : Int) (w : World) :
    (binOp .neq 29 (.agg #[.int .i64 k', .int .i64 n', .string s', .int .i64 a']) (.agg #[.int .i64 k, .int .i64 n, .string s, .int .i64 a])).run Try.prog w = .ok (.bool (!(k' == k && (n' == n && (s'.toList == s.toList && a' == a))))) w := by
  go_simp
  by_cases h1 : k' = k <;> by_cases h2 : n' = n <;> by_cases h3 : s'.toList = s.toList <;> by_cases h4 : a' = a <;> simp [h1, h2, h3, h4]

set_option maxHeartbeats 1000000 in
set_option maxRecDepth 100000 in
theorem of_yes (k n : Int) (s : ByteArray) (a : Int) (k' n' : Int) (s' : ByteArray) (a' : Int) (t : TypeId) (x : Value) (F : Nat) (ta : Option Addr) (m cp : Nat) (w : World)
    (hnf : ∀ w0, Below w.heap.size w w0 → Calls Try.prog 102 #[.agg #[.int .i64 k, .int .i64 n, .string s, .int .i64 a], .slice ta m cp] w0 fun e w' => e = .returned (.tuple #[.iface t x, .bool true]) ∧ Below w0.heap.size w0 w')
    (hm : ∀ w f, (method (f + 3) t x "loop.example/cloth/impl.asVal").run Try.prog w = .ok (F, x) w)
    (hf : ∀ args w, (callFunc F args).run Try.prog w = .ok (.enter F args) w)
    (hcall : ∀ w0, Below w.heap.size w w0 → Calls Try.prog F #[x] w0 fun e w' => e = .returned (.agg #[.int .i64 k', .int .i64 n', .string s', .int .i64 a']) ∧ Below w0.heap.size w0 w')
    (b : Bool) (hb : (k' == k && (n' == n && (s'.toList == s.toList && a' == a))) = b) :
    Calls Try.prog 78 #[.agg #[.int .i64 k, .int .i64 n, .string s, .int .i64 a], .slice ta m cp] w fun e w' => e = .returned (.tuple #[if b then .iface t x else .nilIface, .bool b]) ∧ Below w.heap.size w w' := by
  have hne := neq_val k n s a k' n' s' a'
  rw [hb] at hne
  have hb0 : Below w.heap.size w (w.alloc (Obj.cells #[.int .i64 k, .int .i64 n, .string s, .int .i64 a] 29)) := (Below.refl _ _).alloc (Nat.le_refl _) _
  go_enter Try.func78, Try.ntmps78
  go_wp2_with fail
  refine (hnf _ hb0).mono ?_
  rintro e w1 ⟨rfl, hb1⟩
  have hv := (ValAt.new w k n s a).below hb1
  have hB1 : Hid (Below w.heap.size w w1) := grw hb0 hb1
  have c0 := hv.1; have c1 := hv.2.1; have c2 := hv.2.2.1; have c3 := hv.2.2.2
  simp only [Nat.zero_add] at c1 c2 c3
  clear hnf hb0
  go_wp2
  go_region_held3 (fun w' => w'.cell? ⟨w.heap.size, 0, none⟩ = some (.int .i64 k) ∧ w'.cell? ⟨w.heap.size, 1, none⟩ = some (.int .i64 n) ∧ w'.cell? ⟨w.heap.size, 2, none⟩ = some (.string s) ∧ w'.cell? ⟨w.heap.size, 3, none⟩ = some (.int .i64 a)) 
    (first | exact ⟨c0, c1, c2, c3⟩ | exact (ValAt.below (w := w1.drew) ⟨c0, c1, c2, c3⟩ hb2))
    ((refine (hcall _ hB1.out.drew).mono ?_; rintro e w2 ⟨rfl, hb2⟩))
  clear hne hb hm hcall hf
  have hB2 : Hid (Below w.heap.size w w2) := grw hB1.out.drew hb2
  cases b
  · go_wp2
    go_ret2
    exact ⟨rfl, hB2.out⟩
  · go_wp2
    go_ret2
    exact ⟨rfl, hB2.out⟩

theorem of_no (k n : Int) (s : ByteArray) (a : Int) (x : Value) (ta : Option Addr) (m cp : Nat) (w : World)
    (hnf : ∀ w0, Below w.heap.size w w0 → Calls Try.prog 102 #[.agg #[.int .i64 k, .int .i64 n, .string s, .int .i64 a], .slice ta m cp] w0 fun e w' => e = .returned (.tuple #[x, .bool false]) ∧ Below w0.heap.size w0 w') :
    Calls Try.prog 78 #[.agg #[.int .i64 k, .int .i64 n, .string s, .int .i64 a], .slice ta m cp] w fun e w' => e = .returned (.tuple #[.nilIface, .bool false]) ∧ Below w.heap.size w w' := by
  have hb0 : Below w.heap.size w (w.alloc (Obj.cells #[.int .i64 k, .int .i64 n, .string s, .int .i64 a] 29)) := (Below.refl _ _).alloc (Nat.le_refl _) _
  go_enter Try.func78, Try.ntmps78
  go_wp2_with fail
  refine (hnf _ hb0).mono ?_
  rintro e w1 ⟨rfl, hb1⟩
  have hB1 : Hid (Below w.heap.size w w1) := grw hb0 hb1
  clear hnf hb0 hb1
  go_wp2
  go_quiet (fail)
  go_wp2
  go_ret2
  exact ⟨rfl, below_drewN hB1.out nq⟩

theorem meth_0 (w : World) (f : Nat) : (method (f + 3) 152 (.agg #[]) "loop.example/cloth/impl.asVal").run Try.prog w = .ok (152, .agg #[]) w := by kernel_rfl
theorem meth_1 (b : Bool) (w : World) (f : Nat) : (method (f + 3) 132 (.agg #[.bool b]) "loop.example/cloth/impl.asVal").run Try.prog w = .ok (149, .agg #[.bool b]) w := by kernel_rfl
theorem meth_2 (n : Int) (w : World) (f : Nat) : (method (f + 3) 134 (.agg #[.int .i64 n]) "loop.example/cloth/impl.asVal").run Try.prog w = .ok (150, .agg #[.int .i64 n]) w := by kernel_rfl
theorem meth_3 (s : ByteArray) (w : World) (f : Nat) : (method (f + 3) 136 (.agg #[.string s]) "loop.example/cloth/impl.asVal").run Try.prog w = .ok (151, .agg #[.string s]) w := by kernel_rfl
theorem meth_4 (b : Nat) (w : World) (f : Nat) : (method (f + 3) 92 (.pointer (some ⟨b, 0, none⟩)) "loop.example/cloth/impl.asVal").run Try.prog w = .ok (148, .pointer (some ⟨b, 0, none⟩)) w := by kernel_rfl

/-- 'valueOf'. -/
theorem of_any (v : V) (ta : Option Addr) (tb m cp : Nat) (T : Nat → Nat) (w : World) (H : Hid (Tabs w ta tb m T)) :
    Calls Try.prog 78 #[.agg #[.int .i64 v.k, .int .i64 v.n, .string v.s, .int .i64 v.a], .slice ta m cp] w fun e w' => e = .returned (.tuple #[if isV m v then ifv T v else .nilIface, .bool (isV m v)]) ∧ Below w.heap.size w w' := by
  obtain ⟨k, n, s, a⟩ := v
  simp only
  have eq0 : ∀ x : Int, ((0 : Int) == x) = (x == 0) := fun x => Bool.eq_iff_iff.2 (by simp only [beq_iff_eq]; exact eq_comm)
  have eqs : (([] : List UInt8) == s.toList) = (s.toList == []) := Bool.eq_iff_iff.2 (by simp only [beq_iff_eq]; exact eq_comm)
  have hes : (ByteArray.mk #[]).toList = [] := by rw [ByteArray.toList_eq]
  by_cases k0 : k = 0
  · subst k0
    refine (of_yes 0 n s a 0 0 ⟨#[]⟩ 0 _ _ _ ta m cp w (fun w0 _ => nf_0 n s a ta m cp w0) meth_0 Try.call152 (fun w0 _ => asNil_any w0) (isV m ⟨0, n, s, a⟩) ?_).mono ?_
    · rw [hes, eq0 n, eq0 a, eqs]; rfl
    · rintro e w' ⟨rfl, h⟩
      exact ⟨rfl, h⟩
  by_cases k1 : k = 1
  · subst k1
    refine (of_yes 1 n s a 1 (if (n == 1) then 1 else 0) ⟨#[]⟩ 0 _ _ _ ta m cp w (fun w0 _ => nf_1 n s a ta m cp w0) (meth_1 _) Try.call149 (fun w0 _ => asBool_any _ w0) (isV m ⟨1, n, s, a⟩) ?_).mono ?_
    · rw [hes, eq0 a, eqs]
      show (true && (((if (n == 1) = true then (1 : Int) else 0) == n) && _)) = ((n == 0 || n == 1) && _)
      by_cases h1 : n = 1
      · subst h1; rfl
      · have : (n == 1) = false := by simpa using h1
        rw [this, if_neg (by simp), eq0 n, Bool.or_false, Bool.true_and]
    · rintro e w' ⟨rfl, h⟩
      exact ⟨rfl, h⟩
  by_cases k2 : k = 2
  · subst k2
    refine (of_yes 2 n s a 2 n ⟨#[]⟩ 0 _ _ _ ta m cp w (fun w0 _ => nf_2 n s a ta m cp w0) (meth_2 _) Try.call150 (fun w0 _ => asInt_any _ w0) (isV m ⟨2, n, s, a⟩) ?_).mono ?_
    · rw [hes, eq0 a, eqs, beq_self_eq_true n]; rfl
    · rintro e w' ⟨rfl, h⟩
      exact ⟨rfl, h⟩
  by_cases k3 : k = 3
  · subst k3
    by_cases hs : (s.size : Int) ≤ 500
    · have hd : decide ((s.size : Int) ≤ 500) = true := by simpa using hs
      refine (of_yes 3 n s a 3 0 s 0 _ _ _ ta m cp w (fun w0 _ => hd ▸ nf_3 n s a ta m cp w0) (meth_3 _) Try.call151 (fun w0 _ => asText_any _ w0) (isV m ⟨3, n, s, a⟩) ?_).mono ?_
      · rw [eq0 a, eq0 n, beq_self_eq_true s.toList]
        have hd' : decide (s.size ≤ 500) = true := by simpa using (by omega : s.size ≤ 500)
        show (true && (n == 0 && (true && a == 0))) = (n == 0 && (a == 0 && decide (s.size ≤ 500)))
        rw [hd', Bool.and_true, Bool.true_and, Bool.true_and]
      · rintro e w' ⟨rfl, h⟩
        exact ⟨rfl, h⟩
    · have hd : decide ((s.size : Int) ≤ 500) = false := by simpa using hs
      have hno : isV m ⟨3, n, s, a⟩ = false := by
        have hd' : decide (s.size ≤ 500) = false := by simpa using (by omega : ¬ s.size ≤ 500)
        show (n == 0 && (a == 0 && decide (s.size ≤ 500))) = false
        rw [hd', Bool.and_false, Bool.and_false]
      rw [hno]
      exact of_no 3 n s a _ ta m cp w (fun w0 _ => hd ▸ nf_3 n s a ta m cp w0)
  by_cases k4 : k = 4
  · subst k4
    by_cases ha : 0 ≤ a ∧ a < m
    · refine (of_yes 4 n s a 4 0 ⟨#[]⟩ a _ _ _ ta m cp w (fun w0 hb => nf_4 n s a ta tb m cp T w0 ha.1 ha.2 (H.out.below hb)) (meth_4 _) Try.call148 (fun w0 hb => asTab_any _ a w0 ?_) (isV m ⟨4, n, s, a⟩) ?_).mono ?_
      · have := (H.out.below hb).at_ a.toNat (by omega)
        rw [this]; congr 2; omega
      · rw [hes, eq0 n, eqs, beq_self_eq_true a]
        have h1 : decide (0 ≤ a) = true := by simpa using ha.1
        have h2 : decide (a < m) = true := by simpa using ha.2
        show (true && (n == 0 && (s.toList == [] && true))) = (n == 0 && (s.toList == [] && (decide (0 ≤ a) && decide (a < m))))
        rw [h1, h2]; rfl
      · rintro e w' ⟨rfl, h⟩
        exact ⟨rfl, h⟩
    · have hno : isV m ⟨4, n, s, a⟩ = false := by
        have hd : (decide (0 ≤ a) && decide (a < m)) = false := by
          rw [← Bool.decide_and]; simpa using ha
        show (n == 0 && (s.toList == [] && (decide (0 ≤ a) && decide (a < m)))) = false
        rw [hd, Bool.and_false, Bool.and_false]
      rw [hno]
      exact of_no 4 n s a _ ta m cp w (fun w0 _ => nf_4no n s a ta m cp w0 ha)
  · have hno : isV m ⟨k, n, s, a⟩ = false := by simp [isV, k0, k1, k2, k3, k4]
    rw [hno]
    exact of_no k n s a _ ta m cp w (fun w0 _ => nf_no k n s a ta m cp w0 (by simpa using k0) (by simpa using k1) (by simpa using k2) (by simpa using k3) (by simpa using k4))

theorem isKey_of (k n : Int) (s : ByteArray) (a : Int) (w : World) (x : Value) (t : TypeId) (b b1 b2 b3 : Bool) (y1 y2 y3 : Value) (hb : (b1 || (b2 || b3)) = b)
    (h1 : ∀ w, (Instr.typeAssert (.iface t x) 67 132 true).run Try.prog w = .ok (.tuple #[y1, .bool b1]) w)
    (h2 : ∀ w, (Instr.typeAssert (.iface t x) 67 134 true).run Try.prog w = .ok (.tuple #[y2, .bool b2]) w)
    (h3 : ∀ w, (Instr.typeAssert (.iface t x) 67 136 true).run Try.prog w = .ok (.tuple #[y3, .bool b3]) w)
    (hof : ∀ w, Calls Try.prog 78 #[.agg #[.int .i64 k, .int .i64 n, .string s, .int .i64 a], .slice none 0 0] w fun e w' => e = .returned (.tuple #[.iface t x, .bool true]) ∧ Below w.heap.size w w') :
    Calls Try.prog 50 #[.agg #[.int .i64 k, .int .i64 n, .string s, .int .i64 a]] w fun e w' => e = .returned (.bool b) ∧ Below w.heap.size w w' := by
  have hb0 : Hid (Below w.heap.size w (w.alloc (Obj.cells #[.int .i64 k, .int .i64 n, .string s, .int .i64 a] 29))) := (Below.refl _ _).alloc (Nat.le_refl _) _
  subst hb
  go_enter Try.func50, Try.ntmps50
  go_wp2_with fail
  refine (hof _).mono ?_
  rintro e w1 ⟨rfl, hb1⟩
  have HB : Hid (Below w.heap.size w w1) := grw hb0.out hb1
  clear hb1 hof hb0
  cases b1 <;> cases b2 <;> cases b3
  all_goals
    go_wp2
    go_ret
    exact ⟨rfl, HB.out⟩

/-- 'isKey'. -/
theorem isKey_any (v : V) (w : World) :
    Calls Try.prog 50 #[.agg #[.int .i64 v.k, .int .i64 v.n, .string v.s, .int .i64 v.a]] w fun e w' => e = .returned (.bool (isK v)) ∧ Below w.heap.size w w' := by
  obtain ⟨k, n, s, a⟩ := v
  simp only
  have hof := fun w => of_any ⟨k, n, s, a⟩ none 0 0 0 (fun _ => 0) w (Tabs.nil _)
  obtain ⟨b, hbv⟩ : ∃ b, isV 0 ⟨k, n, s, a⟩ = b := ⟨_, rfl⟩
  simp only [hbv] at hof
  cases b
  · have hno : isK ⟨k, n, s, a⟩ = false := by simp [isK, hbv]
    rw [hno]
    clear hbv hno
    have hb0 : Hid (Below w.heap.size w (w.alloc (Obj.cells #[.int .i64 k, .int .i64 n, .string s, .int .i64 a] 29))) := (Below.refl _ _).alloc (Nat.le_refl _) _
    go_enter Try.func50, Try.ntmps50
    go_wp2_with fail
    refine (hof _).mono ?_
    rintro e w1 ⟨rfl, hb1⟩
    go_wp2
    go_ret
    exact ⟨rfl, grw hb0.out hb1⟩
  · have hk : isK ⟨k, n, s, a⟩ = (k == 1 || k == 2 || k == 3) := by simp [isK, hbv]
    rw [hk]
    by_cases k0 : k = 0
    · subst k0
      exact isKey_of 0 n s a w _ _ _ false false false (.agg #[.bool false]) (.agg #[.int .i64 0]) (.agg #[.string ⟨#[]⟩]) rfl (fun _ => by kernel_rfl) (fun _ => by kernel_rfl) (fun _ => by kernel_rfl) hof
    by_cases k1 : k = 1
    · subst k1
      exact isKey_of 1 n s a w _ _ _ true false false (.agg #[.bool (n == 1)]) (.agg #[.int .i64 0]) (.agg #[.string ⟨#[]⟩]) rfl (fun _ => by kernel_rfl) (fun _ => by kernel_rfl) (fun _ => by kernel_rfl) hof
    by_cases k2 : k = 2
    · subst k2
      exact isKey_of 2 n s a w _ _ _ false true false (.agg #[.bool false]) (.agg #[.int .i64 n]) (.agg #[.string ⟨#[]⟩]) rfl (fun _ => by kernel_rfl) (fun _ => by kernel_rfl) (fun _ => by kernel_rfl) hof
    by_cases k3 : k = 3
    · subst k3
      exact isKey_of 3 n s a w _ _ _ false false true (.agg #[.bool false]) (.agg #[.int .i64 0]) (.agg #[.string s]) rfl (fun _ => by kernel_rfl) (fun _ => by kernel_rfl) (fun _ => by kernel_rfl) hof
    · exfalso
      by_cases k4 : k = 4
      · subst k4
        have : (n == 0 && (s.toList == [] && (decide (0 ≤ a) && decide (a < ((0 : Nat) : Int))))) = true := hbv
        simp at this
        omega
      · simp [isV, k0, k1, k2, k3, k4] at hbv

theorem boxes (w : World) (u v : V) : Below w.heap.size w ((w.alloc (Obj.cells #[.int .i64 u.k, .int .i64 u.n, .string u.s, .int .i64 u.a] 29)).alloc (Obj.cells #[.int .i64 v.k, .int .i64 v.n, .string v.s, .int .i64 v.a] 29)) :=
  ((Below.refl _ _).alloc (Nat.le_refl _) _).alloc (by simp) _

set_option maxHeartbeats 1000000 in
set_option maxRecDepth 100000 in
/-- 'impl.KeyOrder'. -/
theorem implKo_any (u v : V) (w : World) :
    Calls Try.prog 19 #[.agg #[.int .i64 u.k, .int .i64 u.n, .string u.s, .int .i64 u.a], .agg #[.int .i64 v.k, .int .i64 v.n, .string v.s, .int .i64 v.a]] w fun e w' => e = .returned (.int .i64 (ko u v)) ∧ Below w.heap.size w w' := by
  have hb0 : Hid _ := boxes w u v
  by_cases h1 : isK u = true
  · by_cases h2 : isK v = true
    · have HK : Hid (orI (cmpI u.k v.k) (cmpI u.n v.n) (cmpS u.s v.s) = ko u v) := ko_eq h1 h2
      rw [← HK.out]
      go_enter Try.func19, Try.ntmps19
      go_wp2_with fail
      refine (isKey_any u _).mono ?_
      rintro e w1 ⟨rfl, hb1⟩
      rw [h1]
      have hv1 : ValAt w1 (w.heap.size + 1) 0 v.k v.n v.s v.a := by
        have := (ValAt.new (w.alloc (Obj.cells #[.int .i64 u.k, .int .i64 u.n, .string u.s, .int .i64 u.a] 29)) v.k v.n v.s v.a).below hb1
        simpa using this
      have hu1 : ValAt w1 w.heap.size 0 u.k u.n u.s u.a := ((ValAt.new w u.k u.n u.s u.a).below ((Below.refl _ _).alloc (Nat.le_refl _) _)).below hb1
      have hB1 : Hid (Below w.heap.size w w1) := grw hb0.out hb1
      clear hb1
      have d0 := hv1.1; have d1 := hv1.2.1; have d2 := hv1.2.2.1; have d3 := hv1.2.2.2
      simp only [Nat.zero_add] at d1 d2 d3
      go_wp2_with fail
      refine (isKey_any v _).mono ?_
      rintro e w2 ⟨rfl, hb2⟩
      rw [h2]
      have hv2 := hv1.below hb2
      have hu2 := hu1.below hb2
      have hB2 : Hid (Below w.heap.size w w2) := grw hB1.out hb2
      clear d0 d1 d2 d3 hv1 hu1 hB1 hb2 hb0 HK h1 h2
      have d0 := hv2.1; have d1 := hv2.2.1; have d2 := hv2.2.2.1; have d3 := hv2.2.2.2
      have c0 := hu2.1; have c1 := hu2.2.1; have c2 := hu2.2.2.1; have c3 := hu2.2.2.2
      simp only [Nat.zero_add] at d1 d2 d3 c1 c2 c3
      clear hv2 hu2
      have hl : w.heap.size < w2.heap.size := World.block_lt_of_cell? _ _ c0
      have hl' : w.heap.size + 1 < w2.heap.size := World.block_lt_of_cell? _ _ d0
      go_wp2
      go_region_held3 (fun w' => w'.cell? ⟨w.heap.size, 0, none⟩ = some (.int .i64 u.k) ∧ w'.cell? ⟨w.heap.size, 1, none⟩ = some (.int .i64 u.n) ∧ w'.cell? ⟨w.heap.size, 2, none⟩ = some (.string u.s) ∧ w'.cell? ⟨w.heap.size + 1, 0, none⟩ = some (.int .i64 v.k) ∧ w'.cell? ⟨w.heap.size + 1, 1, none⟩ = some (.int .i64 v.n) ∧ w'.cell? ⟨w.heap.size + 1, 2, none⟩ = some (.string v.s))
        (first | exact ⟨c0, c1, c2, d0, d1, d2⟩ | go_keep)
        (first
          | (go_at_call 52; refine (cmpI_any _ _ _).mono ?_; rintro e w' ⟨rfl, rfl⟩)
          | (go_at_call 53; refine (cmpL_any _ _ _).mono ?_; rintro e w' ⟨rfl, rfl⟩)
          | (go_at_call 54; refine (cmpS_any _ _ _).mono ?_; rintro e w' ⟨rfl, rfl⟩)
          | (go_at_call 51; refine (or_any _ _ _ _ _ (World.cell?_alloc_new _ _ _ _) (World.cell?_alloc_new _ _ _ _) (World.cell?_alloc_new _ _ _ _)).mono ?_; rintro e w' ⟨rfl, rfl⟩))
      go_wp2
      go_ret
      exact ⟨rfl, (hB2.out.alloc (Nat.le_of_lt hl) _).drew⟩
    · have h2' : isK v = false := by simpa using h2
      have HK : Hid (ko u v = 2) := show ko u v = 2 by unfold ko; rw [h2', Bool.and_false, if_neg (by simp)]
      rw [HK.out]
      go_enter Try.func19, Try.ntmps19
      go_wp2_with fail
      refine (isKey_any u _).mono ?_
      rintro e w1 ⟨rfl, hb1⟩
      rw [h1]
      have hv1 : ValAt w1 (w.heap.size + 1) 0 v.k v.n v.s v.a := by
        have := (ValAt.new (w.alloc (Obj.cells #[.int .i64 u.k, .int .i64 u.n, .string u.s, .int .i64 u.a] 29)) v.k v.n v.s v.a).below hb1
        simpa using this
      have hB1 : Hid (Below w.heap.size w w1) := grw hb0.out hb1
      clear hb1
      have d0 := hv1.1; have d1 := hv1.2.1; have d2 := hv1.2.2.1; have d3 := hv1.2.2.2
      simp only [Nat.zero_add] at d1 d2 d3
      go_wp2_with fail
      refine (isKey_any v _).mono ?_
      rintro e w2 ⟨rfl, hb2⟩
      rw [h2']
      go_wp2
      go_ret
      exact ⟨rfl, grw hB1.out hb2⟩
  · have h1' : isK u = false := by simpa using h1
    have HK : Hid (ko u v = 2) := show ko u v = 2 by unfold ko; rw [h1', Bool.false_and, if_neg (by simp)]
    rw [HK.out]
    go_enter Try.func19, Try.ntmps19
    go_wp2_with fail
    refine (isKey_any u _).mono ?_
    rintro e w1 ⟨rfl, hb1⟩
    rw [h1']
    go_wp2
    go_ret
    exact ⟨rfl, grw hb0.out hb1⟩

/-- 'impl.KeyOrder' lays new blocks and draws: nothing else. -/
theorem implKo_grows (u v : V) (w : World) :
    Calls Try.prog 19 #[.agg #[.int .i64 u.k, .int .i64 u.n, .string u.s, .int .i64 u.a], .agg #[.int .i64 v.k, .int .i64 v.n, .string v.s, .int .i64 v.a]] w fun e w' => e = .returned (.int .i64 (ko u v)) ∧ ∃ q os', w' = grow (w.drewN q) os' := by
  refine (implKo_any u v w).mono ?_
  rintro e w' ⟨he, hb⟩
  refine ⟨he, w'.drawn - w.drawn, w'.heap.extract w.heap.size w'.heap.size, ?_⟩
  have hd := hb.d
  have h1 : w'.heap = w.heap ++ w'.heap.extract w.heap.size w'.heap.size := by
    apply Array.ext_getElem?
    intro i
    rcases Nat.lt_or_ge i w.heap.size with h | h
    · rw [hb.b.block i h, Array.getElem?_append_left h]
    · rw [Array.getElem?_append_right h, Array.getElem?_extract]
      have e : w.heap.size + (i - w.heap.size) = i := by omega
      have hs := hb.b.size
      by_cases hi : i < w'.heap.size
      · rw [if_pos (by omega), e]
      · rw [if_neg (by omega), Array.getElem?_eq_none (by omega)]
  have h2 : w.drawn + (w'.drawn - w.drawn) = w'.drawn := by omega
  obtain ⟨h, t, d, o, p⟩ := w'
  simp only [grow, World.drewN, World.mk.injEq]
  exact ⟨h1, hb.b.tape, h2.symm, hb.b.os, hb.b.output⟩

end Go.Proofs.Ytgflalfiopnmnab.Dr

namespace Go.Proofs.Ytgflalfiopnmnab
open Go.Shelf

/-- The sort of keys, laid at this program. -/
def Try.sortVal_ren : Go.Shelf.Ren := ⟨fun | 6 => 90 | 15 => 105 | 14 => 104 | 28 => 125 | 29 => 126 | 20 => 117 | 21 => 118 | 22 => 119 | 23 => 120 | 24 => 121 | 25 => 122 | 26 => 123 | 27 => 124 | 46 => 127 | 47 => 128 | 48 => 129 | 49 => 130 | 50 => 131 | 57 => 132 | n => n, fun | 22 => 45 | 24 => 29 | 25 => 37 | 3 => 3 | 39 => 174 | 0 => 0 | 53 => 203 | 55 => 205 | 4 => 4 | 46 => 196 | 45 => 195 | 50 => 200 | 5 => 5 | 9 => 9 | 66 => 208 | 70 => 212 | 76 => 214 | 77 => 215 | n => n, fun | n => n⟩
theorem Try.sortVal : SlLaysF0.n6 Try.prog Try.sortVal_ren := {
  mixed := by kernel_rfl
  f6 := ⟨Try.f90.name, by decide, Try.func90.trans (congrArg some (by kernel_rfl))⟩
  f14 := ⟨Try.f104.name, by decide, Try.func104.trans (congrArg some (by kernel_rfl))⟩
  f15 := Try.func105.trans (congrArg some (by kernel_rfl))
  f20 := ⟨Try.f117.name, by decide, Try.func117.trans (congrArg some (by kernel_rfl))⟩
  f21 := ⟨Try.f118.name, by decide, Try.func118.trans (congrArg some (by kernel_rfl))⟩
  f22 := ⟨Try.f119.name, by decide, Try.func119.trans (congrArg some (by kernel_rfl))⟩
  f23 := ⟨Try.f120.name, by decide, Try.func120.trans (congrArg some (by kernel_rfl))⟩
  f24 := ⟨Try.f121.name, by decide, Try.func121.trans (congrArg some (by kernel_rfl))⟩
  f25 := ⟨Try.f122.name, by decide, Try.func122.trans (congrArg some (by kernel_rfl))⟩
  f26 := ⟨Try.f123.name, by decide, Try.func123.trans (congrArg some (by kernel_rfl))⟩
  f27 := ⟨Try.f124.name, by decide, Try.func124.trans (congrArg some (by kernel_rfl))⟩
  f28 := Try.func125.trans (congrArg some (by kernel_rfl))
  f29 := Try.func126.trans (congrArg some (by kernel_rfl))
  f46 := ⟨Try.f127.name, by decide, Try.func127.trans (congrArg some (by kernel_rfl))⟩
  f47 := Try.func128.trans (congrArg some (by kernel_rfl))
  f48 := Try.func129.trans (congrArg some (by kernel_rfl))
  f49 := ⟨Try.f130.name, by decide, Try.func130.trans (congrArg some (by kernel_rfl))⟩
  f50 := ⟨Try.f131.name, by decide, Try.func131.trans (congrArg some (by kernel_rfl))⟩
  f57 := ⟨Try.f132.name, by decide, Try.func132.trans (congrArg some (by kernel_rfl))⟩
  t0 := Try.underlying0
  a0 := Try.isAgg0
  z0 := Try.sizeOf0
  v0 := Try.zeroValue0
  t3 := Try.underlying3
  a3 := Try.isAgg3
  z3 := Try.sizeOf3
  v3 := Try.zeroValue3
  t4 := Try.underlying4
  a4 := Try.isAgg4
  z4 := Try.sizeOf4
  v4 := Try.zeroValue4
  t5 := Try.underlying5
  a5 := Try.isAgg5
  z5 := Try.sizeOf5
  v5 := Try.zeroValue5
  t9 := Try.underlying9
  a9 := Try.isAgg9
  z9 := Try.sizeOf9
  v9 := Try.zeroValue9
  t22 := Try.underlying45
  a22 := Try.isAgg45
  z22 := Try.sizeOf45
  v22 := Try.zeroValue45
  t25 := Try.underlying37
  a25 := Try.isAgg37
  z25 := Try.sizeOf37
  v25 := Try.zeroValue37
  t39 := Try.underlying174
  a39 := Try.isAgg174
  z39 := Try.sizeOf174
  v39 := Try.zeroValue174
  t45 := Try.underlying195
  a45 := Try.isAgg195
  z45 := Try.sizeOf195
  v45 := Try.zeroValue195
  t46 := Try.underlying196
  a46 := Try.isAgg196
  z46 := Try.sizeOf196
  v46 := Try.zeroValue196
  t50 := Try.underlying200
  a50 := Try.isAgg200
  z50 := Try.sizeOf200
  v50 := Try.zeroValue200
  t53 := Try.underlying203
  a53 := Try.isAgg203
  z53 := Try.sizeOf203
  v53 := Try.zeroValue203
  t55 := Try.underlying205
  a55 := Try.isAgg205
  z55 := Try.sizeOf205
  v55 := Try.zeroValue205
  t66 := Try.underlying208
  a66 := Try.isAgg208
  z66 := Try.sizeOf208
  v66 := Try.zeroValue208
  t70 := Try.underlying212
  a70 := Try.isAgg212
  z70 := Try.sizeOf212
  v70 := Try.zeroValue212
  t76 := Try.underlying214
  a76 := Try.isAgg214
  z76 := Try.sizeOf214
  v76 := Try.zeroValue214
  t77 := Try.underlying215
  a77 := Try.isAgg215
  z77 := Try.sizeOf215
  v77 := Try.zeroValue215 }

end Go.Proofs.Ytgflalfiopnmnab

namespace Go.Proofs.Ytgflalfiopnmnab
open Go.RowKit Vl

/-- A cell of a row that is owned is written. -/
theorem owns_set {w : World} {base t s n g cap : Nat} {xs : List Value} (h : w.ownsRow base t s (.slice (some ⟨g, 0, none⟩) n cap) n xs) (i : Nat) (y : Value) : (w.setCell ⟨g, i, none⟩ y).ownsRow base t s (.slice (some ⟨g, 0, none⟩) n cap) n (xs.set i y) := by
  refine ⟨by rw [List.length_set]; exact h.1, ?_⟩
  rcases h.2 with ⟨hv, _⟩ | ⟨g', cap', cur, hv, hge, hh, hl, hm, hs, ht⟩
  · cases hv
  · cases hv
    refine Or.inr ⟨g, cap, cur.setIfInBounds i y, rfl, hge, ?_, hl, hm, by simpa using hs, ?_⟩
    · simp [World.setCell, Array.getElem?_modify, hh]
    · rw [Array.toList_setIfInBounds, List.take_set, ht]

/-- A pair is written into a row of pairs. -/
theorem pairCells_put {K X : Nat → V} {c j : Nat} (hj : j < c) (k x : V) :
    ((((((((pairCells K X c).set (j * 8) (.int .i64 k.k)).set (j * 8 + 1) (.int .i64 k.n)).set (j * 8 + 2) (.string k.s)).set (j * 8 + 3) (.int .i64 k.a)).set (j * 8 + 4) (.int .i64 x.k)).set (j * 8 + 5) (.int .i64 x.n)).set (j * 8 + 6) (.string x.s)).set (j * 8 + 7) (.int .i64 x.a)
      = pairCells (fun i => if i = j then k else K i) (fun i => if i = j then x else X i) c := by
  apply List.ext_getElem?
  intro m
  by_cases hm : m < c * 8
  · obtain ⟨q, i, hi, rfl⟩ : ∃ q i, i < 8 ∧ m = q * 8 + i := ⟨m / 8, m % 8, by omega, by omega⟩
    have hq : q < c := by omega
    rw [pairCells_at _ _ _ _ _ hq hi]
    simp only [List.getElem?_set, List.length_set, pairCells_len]
    by_cases e : q = j
    · subst e
      simp only [if_true]
      have hlt : ∀ d, d < 8 → q * 8 + d < c * 8 := fun d hd => by omega
      rcases (show i = 0 ∨ i = 1 ∨ i = 2 ∨ i = 3 ∨ i = 4 ∨ i = 5 ∨ i = 6 ∨ i = 7 by omega) with rfl | rfl | rfl | rfl | rfl | rfl | rfl | rfl <;> simp [hlt, show q * 8 < c * 8 by omega]
    · simp only [e, if_false]
      rw [if_neg (by omega), if_neg (by omega), if_neg (by omega), if_neg (by omega), if_neg (by omega), if_neg (by omega), if_neg (by omega), if_neg (by omega)]
      exact pairCells_at K X c q i hq hi
  · rw [List.getElem?_eq_none (by simp only [List.length_set, pairCells_len]; omega), List.getElem?_eq_none (by rw [pairCells_len]; omega)]

theorem owns_put {w : World} {base n g cap j : Nat} {K X : Nat → V} (h : w.ownsRow base 63 8 (.slice (some ⟨g, 0, none⟩) n cap) n (pairCells K X n)) (hj : j < n) (k x : V) :
    ((((((((w.setCell ⟨g, j * 8, none⟩ (.int .i64 k.k)).setCell ⟨g, j * 8 + 1, none⟩ (.int .i64 k.n)).setCell ⟨g, j * 8 + 2, none⟩ (.string k.s)).setCell ⟨g, j * 8 + 3, none⟩ (.int .i64 k.a)).setCell ⟨g, j * 8 + 4, none⟩ (.int .i64 x.k)).setCell ⟨g, j * 8 + 5, none⟩ (.int .i64 x.n)).setCell ⟨g, j * 8 + 6, none⟩ (.string x.s)).setCell ⟨g, j * 8 + 7, none⟩ (.int .i64 x.a)).ownsRow base 63 8 (.slice (some ⟨g, 0, none⟩) n cap) n (pairCells (fun i => if i = j then k else K i) (fun i => if i = j then x else X i) n) := by
  rw [← pairCells_put hj]
  exact owns_set (owns_set (owns_set (owns_set (owns_set (owns_set (owns_set (owns_set h _ _) _ _) _ _) _ _) _ _) _ _) _ _) _ _

/-- Where pairs stand, by their places. -/
abbrev byI (K : Nat → V) (ms : List Nat) (i : Nat) : V := K (ms.getD i 0)

theorem getD_mid {A B : List Nat} {x : Nat} : (A ++ x :: B).getD A.length 0 = x := by simp [List.getD_eq_getElem?_getD]
theorem getD_swap {A B : List Nat} {x y : Nat} (i : Nat) (K : Nat → V) : (if i = A.length + 1 then K y else if i = A.length then K x else byI K (A ++ y :: x :: B) i) = byI K (A ++ x :: y :: B) i := by
  unfold byI
  simp only [List.getD_eq_getElem?_getD]
  by_cases h1 : i = A.length + 1
  · subst h1
    rw [if_pos rfl, List.getElem?_append_right (by omega)]
    simp
  · rw [if_neg h1]
    by_cases h2 : i = A.length
    · subst h2
      rw [if_pos rfl, List.getElem?_append_right (by omega)]
      simp
    · rw [if_neg h2]
      by_cases h3 : i < A.length
      · rw [List.getElem?_append_left h3, List.getElem?_append_left h3]
      · rw [List.getElem?_append_right (by omega), List.getElem?_append_right (by omega)]
        obtain ⟨d, hd⟩ : ∃ d, i - A.length = d + 2 := ⟨i - A.length - 2, by omega⟩
        rw [hd]
        simp

theorem only8 {w : World} {g a0 a1 a2 a3 a4 a5 a6 a7 : Nat} {v0 v1 v2 v3 v4 v5 v6 v7 : Value} : Only (fun k => k = g) w ((((((((w.setCell ⟨g, a0, none⟩ v0).setCell ⟨g, a1, none⟩ v1).setCell ⟨g, a2, none⟩ v2).setCell ⟨g, a3, none⟩ v3).setCell ⟨g, a4, none⟩ v4).setCell ⟨g, a5, none⟩ v5).setCell ⟨g, a6, none⟩ v6).setCell ⟨g, a7, none⟩ v7) :=
  ((((((((Only.refl (fun k => k = g) w).set (p := ⟨g, a0, none⟩) rfl v0).set (p := ⟨g, a1, none⟩) rfl v1).set (p := ⟨g, a2, none⟩) rfl v2).set (p := ⟨g, a3, none⟩) rfl v3).set (p := ⟨g, a4, none⟩) rfl v4).set (p := ⟨g, a5, none⟩) rfl v5).set (p := ⟨g, a6, none⟩) rfl v6).set (p := ⟨g, a7, none⟩) rfl v7

end Go.Proofs.Ytgflalfiopnmnab

namespace Go.Proofs.Ytgflalfiopnmnab
open Go.RowKit Vl Go.Sort Go.Shelf

/-- A key. -/
abbrev KV := { v : V // isK v = true }
instance : Inhabited KV := ⟨⟨⟨2, 0, ⟨#[]⟩, 0⟩, by decide +kernel⟩⟩
def encK (x : KV) : List Value := [.int .i64 x.1.k, .int .i64 x.1.n, .string x.1.s, .int .i64 x.1.a]

theorem ltK (x y : KV) : ltOf (fun x y : KV => ko x.1 y.1) x y = less x.1 y.1 := by
  unfold ltOf ko
  simp only [x.2, y.2, Bool.and_self, if_true]
  cases h : less x.1 y.1
  · cases less y.1 x.1 <;> simp
  · simp
theorem less_irrefl (a : V) : less a a = false := by
  cases h : less a a
  · rfl
  · have := less_asymm h; rw [h] at this; cases this
theorem swoK : SWO (ltOf fun x y : KV => ko x.1 y.1) where
  irrefl x := by rw [ltK]; exact less_irrefl _
  trans x y z h1 h2 := by
    rw [ltK] at *
    cases h : less x.1 z.1
    · have := le_trans (less_asymm h2) h
      rw [this] at h1
      cases h1
    · rfl
  ntrans x y z h1 h2 := by
    rw [ltK] at *
    exact le_trans h2 h1

theorem perm_map {α β : Type} {f : α → β} {l k : List β} (h : l.Perm k) : ∀ ms : List α, k = ms.map f → ∃ ls : List α, ls.Perm ms ∧ l = ls.map f := by
  induction h with
  | nil => intro ms e; cases ms with
    | nil => exact ⟨[], List.Perm.refl _, rfl⟩
    | cons => simp at e
  | cons x _ ih => intro ms e; cases ms with
    | nil => simp at e
    | cons m ms =>
      simp only [List.map_cons, List.cons.injEq] at e
      obtain ⟨ls, h1, h2⟩ := ih ms e.2
      exact ⟨m :: ls, h1.cons m, by rw [h2, e.1]; rfl⟩
  | swap x y l => intro ms e; match ms, e with
    | [], e => simp at e
    | [_], e => simp at e
    | a :: b :: ms, e =>
      simp only [List.map_cons, List.cons.injEq] at e
      obtain ⟨e1, e2, e3⟩ := e
      exact ⟨b :: a :: ms, List.Perm.swap _ _ _, by rw [e1, e2, e3]; rfl⟩
  | trans _ _ ih1 ih2 => intro ms e
                         obtain ⟨ls, h1, h2⟩ := ih2 ms e
                         obtain ⟨ls', h3, h4⟩ := ih1 ls h2
                         exact ⟨ls', h3.trans h1, h4⟩

theorem keyCells_len (K : Nat → V) (L : Nat) : (keyCells (keys K L)).length = L * 4 := by
  induction L with
  | zero => rfl
  | succ L ih => rw [keys_succ]; simp only [keyCells, List.flatMap_append, List.length_append] at ih ⊢; rw [ih]; simp; omega
theorem keyCells_at (K : Nat → V) : ∀ (L j i : Nat), j < L → i < 4 → (keyCells (keys K L))[j * 4 + i]? = [Value.int .i64 (K j).k, .int .i64 (K j).n, .string (K j).s, .int .i64 (K j).a][i]? := by
  intro L
  induction L with
  | zero => intro j i hj; omega
  | succ L ih =>
    intro j i hj hi
    rw [keys_succ]
    have e : keyCells (keys K L ++ [K L]) = keyCells (keys K L) ++ [.int .i64 (K L).k, .int .i64 (K L).n, .string (K L).s, .int .i64 (K L).a] := by simp [keyCells]
    rw [e]
    by_cases e : j = L
    · subst e
      rw [List.getElem?_append_right (by rw [keyCells_len]; omega), keyCells_len, show j * 4 + i - j * 4 = i by omega]
    · rw [List.getElem?_append_left (by rw [keyCells_len]; omega)]
      exact ih j i (by omega) hi

/-- The keys of a row, as keys. -/
noncomputable def kvOf (K : Nat → V) (c : Nat) : KV := if h : isK (K c) = true then ⟨K c, h⟩ else default
theorem kvOf_val {K : Nat → V} {c : Nat} (h : isK (K c) = true) : (kvOf K c).1 = K c := by unfold kvOf; rw [dif_pos h]
noncomputable def kvs (K : Nat → V) (L : Nat) : Array KV := ((List.range L).map (kvOf K)).toArray
theorem kvs_size (K : Nat → V) (L : Nat) : (kvs K L).size = L := by simp [kvs]
theorem kvs_at (K : Nat → V) (L c : Nat) (h : c < L) : (kvs K L)[c]! = kvOf K c := by
  rw [getElem!_pos _ c (by rw [kvs_size]; exact h)]
  simp [kvs]

theorem flat_at {d : Array KV} {j i : Nat} (hj : j < d.size) (hi : i < 4) : (flatK encK 4 d)[j * 4 + i]! = (encK d[j]!)[i]! := by
  rw [get_flatK _ _ _ _ (by omega), show (j * 4 + i) / 4 = j by omega, show (j * 4 + i) % 4 = i by omega]

theorem encK_at (x : KV) {i : Nat} (hi : i < 4) : [Value.int .i64 x.1.k, .int .i64 x.1.n, .string x.1.s, .int .i64 x.1.a][i]? = some (encK x)[i]! := by
  rcases (show i = 0 ∨ i = 1 ∨ i = 2 ∨ i = 3 by omega) with rfl | rfl | rfl | rfl <;> rfl

theorem holds_keys {w : World} {base L g cap : Nat} {K : Nat → V} (hK : ∀ c, c < L → isK (K c) = true) (h : w.ownsRow base 29 4 (.slice (some ⟨g, 0, none⟩) L cap) L (keyCells (keys K L))) : HoldsK encK 4 w g 0 (kvs K L) := by
  intro t ht
  rw [size_flatK, kvs_size] at ht
  obtain ⟨j, i, hi, rfl⟩ : ∃ j i, i < 4 ∧ t = j * 4 + i := ⟨t / 4, t % 4, by omega, by omega⟩
  have hj : j < L := by omega
  have e := keyCells_at K L j i hj hi
  have hv := kvOf_val (hK j hj)
  rw [← hv, encK_at _ hi] at e
  obtain ⟨g', cap', hs, hc⟩ := owns_cell h e
  cases hs
  rw [Nat.zero_add]
  refine ⟨?_, ?_⟩
  · rw [hc, flat_at (by rw [kvs_size]; exact hj) hi, kvs_at K L j hj]
    rfl
  · rcases h.2 with ⟨hv, _⟩ | ⟨g', cap', cur, hv, _, hh, _⟩
    · cases hv
    · cases hv
      simp [World.frozen?, hh]

/-- What the sort leaves of a row of keys. -/
theorem sorted_row {w : World} {base L g cap n : Nat} {K : Nat → V} {d' : Array KV} {os : Array Obj} (hK : ∀ c, c < L → isK (K c) = true) (h : w.ownsRow base 29 4 (.slice (some ⟨g, 0, none⟩) L cap) L (keyCells (keys K L)))
    (hp : PermIn 0 L (kvs K L) d') (hs : SortedIn (ltOf fun x y : KV => ko x.1 y.1) 0 L d') :
    ∃ ls, SortI K L ls ∧ (sortWorldK encK 4 w g 0 n d' os).ownsRow base 29 4 (.slice (some ⟨g, 0, none⟩) L cap) L (keyCells (keys (byI K ls) L)) ∧ Only (fun k => k = g) w (sortWorldK encK 4 w g 0 n d' os) := by
  have hsz : d'.size = L := by rw [hp.1, kvs_size]
  have hperm : d'.toList.Perm ((List.range L).map (kvOf K)) := by
    have := hp.2.2
    rw [show d'.extract 0 L = d' by apply Array.ext_getElem?; intro i; rw [Array.getElem?_extract]; by_cases hi : i < L <;> simp [hi, hsz]] at this
    rw [show (kvs K L).extract 0 L = kvs K L by apply Array.ext_getElem?; intro i; rw [Array.getElem?_extract]; by_cases hi : i < L <;> simp [hi, kvs_size]] at this
    simpa [kvs] using this
  obtain ⟨ls, hls, hd⟩ := perm_map hperm (List.range L) rfl
  have hlen : ls.length = L := by rw [hls.length_eq]; simp
  have hat : ∀ i, i < L → d'[i]! = kvOf K (ls.getD i 0) := fun i hi => by
    rw [getElem!_pos _ i (by omega), ← Array.getElem_toList]
    simp only [hd]
    rw [List.getElem_map, List.getD_eq_getElem?_getD, List.getElem?_eq_getElem (by omega)]
    rfl
  have hlt : ∀ i, i < L → ls.getD i 0 < L := fun i hi => by
    rw [List.getD_eq_getElem?_getD, List.getElem?_eq_getElem (by omega)]
    exact List.mem_range.1 (hls.subset (List.getElem_mem _))
  refine ⟨ls, ⟨hls, ?_⟩, ?_, ?_⟩
  · unfold SortW
    rw [List.pairwise_iff_getElem]
    intro i j hi hj hij
    have := hs i j (Nat.zero_le _) hij (by omega)
    rw [ltK, hat i (by omega), hat j (by omega)] at this
    rw [kvOf_val (hK _ (hlt j (by omega))), kvOf_val (hK _ (hlt i (by omega)))] at this
    simpa [List.getD_eq_getElem?_getD, hi, hj] using this
  · refine ⟨by rw [keyCells_len], Or.inr ?_⟩
    rcases h.2 with ⟨hv, _⟩ | ⟨g', cap', cur, hv, hge, hh, hl, hm, hs', ht⟩
    · cases hv
    · cases hv
      have hgl := blk_lt hh
      refine ⟨g, cap, putCells id 0 (flatK encK 4 d') cur, rfl, hge, ?_, hl, hm, by simp [putCells, hs'], ?_⟩
      · unfold sortWorldK grow putRowK putRow mapBlock
        simp only
        rw [Array.getElem?_append_left (by simp [Sort.ahead]; exact hgl)]
        simp [Array.getElem?_modify, Sort.ahead, hh, onCells]
      · apply List.ext_getElem?
        intro t
        by_cases ht' : t < L * 4
        · obtain ⟨j, i, hi, rfl⟩ : ∃ j i, i < 4 ∧ t = j * 4 + i := ⟨t / 4, t % 4, by omega, by omega⟩
          have hj : j < L := by omega
          have e := keyCells_at (byI K ls) L j i hj hi
          unfold byI at e
          rw [← kvOf_val (hK _ (hlt j hj)), encK_at _ hi] at e
          rw [List.getElem?_take, if_pos ht']
          have hcl : j * 4 + i < cur.size := by rw [hs']; have : L * 4 ≤ cap * 4 := Nat.mul_le_mul_right 4 hl; omega
          have e2 : (putCells id 0 (flatK encK 4 d') cur).toList[j * 4 + i]? = some (flatK encK 4 d')[j * 4 + i]! := by
            simp [putCells, hcl, hsz]
            intro hx
            omega
          rw [e2, flat_at (by omega) hi, hat j hj]
          exact e.symm
        · rw [List.getElem?_eq_none (by simp; omega), List.getElem?_eq_none (by rw [keyCells_len]; omega)]
  · refine ⟨rfl, rfl, rfl, ?_, fun k hk hne => ?_⟩
    · unfold sortWorldK grow putRowK putRow mapBlock
      simp [Sort.ahead]
    · unfold sortWorldK grow putRowK putRow mapBlock
      simp only
      rw [Array.getElem?_append_left (by simp [Sort.ahead]; exact hk), Array.getElem?_modify, if_neg (fun e => hne e.symm)]
      rfl

end Go.Proofs.Ytgflalfiopnmnab

namespace Go.Proofs.Ytgflalfiopnmnab
open Go.RowKit Vl Go.Sort Go.Shelf

set_option maxHeartbeats 1000000 in
/-- The sort of a row of keys. -/
theorem sort_some (base L g cap : Nat) (K : Nat → V) (w : World) (hL : L ≤ 1000) (hK : ∀ c, c < L → isK (K c) = true) (hO : w.ownsRow base 29 4 (.slice (some ⟨g, 0, none⟩) L cap) L (keyCells (keys K L))) :
    Calls Try.prog 90 #[.slice (some ⟨g, 0, none⟩) L cap, .func (.func 19) #[] #[]] w fun e w' => e = .returned (.tuple #[]) ∧ ∃ ls, SortI K L ls ∧ w'.ownsRow base 29 4 (.slice (some ⟨g, 0, none⟩) L cap) L (keyCells (keys (byI K ls) L)) ∧ Only (fun k => k = g) w w' := by
  have eg : ∀ args w, (callFunc 19 args).run Try.prog w = .ok (.enter 19 args) w := enters_of Try.func19 (by kernel_rfl) rfl
  have hgl : g < w.heap.size := by
    obtain ⟨_, _, _, h⟩ := owns_form hO
    exact (h g rfl).2
  have hcon := AnyQ.slices_SortFunc Try.sortVal 4 (fun w => by kernel_rfl) (fun w => by kernel_rfl) encK (fun _ => rfl) (fun x v hv => by simp [encK] at hv; rcases hv with rfl | rfl | rfl | rfl <;> rfl) (fun x y => ko x.1 y.1) swoK 19 #[] g 0 cap (kvs K L) w eg (fun m os dk _ x y => Dr.implKo_grows x.1 y.1 _) (holds_keys hK hO) hgl (by rw [kvs_size]; omega)
  rw [kvs_size] at hcon
  refine Calls.mono hcon ?_
  rintro e w' ⟨he, d', n, os, hp, hs, rfl⟩
  exact ⟨he, sorted_row hK hO hp hs⟩

theorem insert_none (f : Value) (w : World) : Calls Try.prog 117 #[.slice none 0 0, .int .i64 0, .int .i64 0, f] w fun e w' => e = .returned (.tuple #[]) ∧ w' = w := by
  go_enter Try.func117, Try.ntmps117
  go_wp2
  go_loopw [8] (fun k wr => k = .int .i64 1 ∧ wr = w) (fun _ _ => 0)
  case atStart => exact ⟨rfl, rfl⟩
  case round =>
    obtain ⟨rfl, rfl⟩ := hrel
    go_wp2
    go_end0
    exact ⟨rfl, rfl⟩

set_option maxHeartbeats 1000000 in
set_option maxRecDepth 100000 in
theorem pdq_none (f : Value) (l : Int) (w : World) : Calls Try.prog 104 #[.slice none 0 0, .int .i64 0, .int .i64 0, .int .i64 l, f] w fun e w' => e = .returned (.tuple #[]) ∧ w' = w := by
  go_enter Try.func104, Try.ntmps104
  go_wp2
  go_loopw [1, 2] (fun a b wr => a = .int .i64 0 ∧ b = .int .i64 0 ∧ wr = w) (fun _ _ _ => 0)
  case atStart => exact ⟨rfl, rfl, rfl⟩
  case round =>
    obtain ⟨rfl, rfl, rfl⟩ := hrel
    go_wp2_with fail
    refine (insert_none f wr).mono ?_
    rintro e w' ⟨rfl, rfl⟩
    go_wp2
    refine bodyPost_ret (results_none rfl _ _ _) rfl ?_
    exact ⟨rfl, rfl⟩

theorem sort_none (f : Value) (w : World) : Calls Try.prog 90 #[.slice none 0 0, f] w fun e w' => e = .returned (.tuple #[]) ∧ w' = w := by
  have hl : Calls Try.prog 105 #[.int .u64 0] w fun e w' => e = .returned (.int .i64 (Lib.bitLen (0 : Int).toNat : Nat)) ∧ w' = w := Any.bits_Len (SlLaysF0.n15.bits (P := Try.prog) (ρ := Try.sortVal_ren) { Try.sortVal with }) 0 w (by omega) (by omega)
  have wr0 : IntKind.u64.wrap (0 : Int) = 0 := by simp [IntKind.wrap, IntKind.bits, IntKind.signed]
  obtain ⟨l, hl'⟩ : ∃ l : Int, ((Lib.bitLen (0 : Int).toNat : Nat) : Int) = l := ⟨_, rfl⟩
  rw [hl'] at hl
  clear hl'
  go_enter Try.func90, Try.ntmps90
  go_wp2_with fail
  refine hl.mono ?_
  rintro e w' ⟨rfl, rfl⟩
  go_wp2_with fail
  refine (pdq_none f l w').mono ?_
  rintro e w2 ⟨rfl, rfl⟩
  go_wp2
  go_end0
  exact ⟨rfl, rfl⟩

end Go.Proofs.Ytgflalfiopnmnab
