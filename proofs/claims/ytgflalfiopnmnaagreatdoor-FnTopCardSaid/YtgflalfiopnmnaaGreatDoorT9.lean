import Derived.Test.YtgflalfiopnmnaaGreatDoorT8
import Derived.Test.YtgflalfiopnmnaaGreatDoorT5
import Derived.Test.YtgflalfiopnmnaaGreatDoorT6
import Derived.Test.YtgflalfiopnmnaaGreatDoorT2
import Derived.Lib.ItoaNum
namespace Go.Proofs.YtgflalfiopnmnaaGreatDoor
open Vl

def relV (R : Nat → Nat → Prop) (x y : V) : Prop := x.k = y.k ∧ (x.k = 4 → R x.a.toNat y.a.toNat) ∧ (x.k ≠ 4 → x = y)

structure Gr where
  n : Nat
  u : V
  L : Nat → Nat
  K : Nat → Nat → V
  X : Nat → Nat → V
def Gr.val (g : Gr) (i : Nat) (k : V) : V := atKey (g.L i) (g.K i) (g.X i) k
def KB (g h : Gr) (R : Nat → Nat → Prop) : Prop := ∀ i j, R i j → i < g.n ∧ j < h.n ∧ ∀ k, relV R (g.val i k) (h.val j k)
def SameG (g h : Gr) : Prop := ∃ R, KB g h R ∧ relV R g.u h.u

section
variable {R S : Nat → Nat → Prop} {x y z : V} {g h i : Gr}
theorem relV.mono (hv : relV R x y) (hm : ∀ a b, R a b → S a b) : relV S x y := ⟨hv.1, fun e => hm _ _ (hv.2.1 e), hv.2.2⟩
theorem relV.symm (hv : relV R x y) : relV (fun a b => R b a) y x := ⟨hv.1.symm, fun e => hv.2.1 (hv.1.trans e), fun e => (hv.2.2 (fun e' => e (hv.1.symm.trans e'))).symm⟩
theorem relV.comp (hv : relV R x y) (hw : relV S y z) : relV (fun a c => ∃ b, R a b ∧ S b c) x z :=
  ⟨hv.1.trans hw.1, fun e => ⟨_, hv.2.1 e, hw.2.1 (hv.1.symm.trans e)⟩, fun e => (hv.2.2 e).trans (hw.2.2 (fun e' => e (hv.1.trans e')))⟩
theorem KB.symm (hk : KB g h R) : KB h g (fun a b => R b a) := fun a b hab => by
  obtain ⟨h1, h2, h3⟩ := hk b a hab
  exact ⟨h2, h1, fun k => (h3 k).symm⟩
theorem KB.comp (hk : KB g h R) (hk' : KB h i S) : KB g i (fun a c => ∃ b, R a b ∧ S b c) := by
  rintro a c ⟨b, h1, h2⟩
  obtain ⟨p1, p2, p3⟩ := hk a b h1
  obtain ⟨q1, q2, q3⟩ := hk' b c h2
  exact ⟨p1, q2, fun k => (p3 k).comp (q3 k)⟩
theorem SameG.symm (hs : SameG g h) : SameG h g := by
  obtain ⟨R, h1, h2⟩ := hs
  exact ⟨_, h1.symm, h2.symm⟩
theorem SameG.trans (hs : SameG g h) (hs' : SameG h i) : SameG g i := by
  obtain ⟨R, h1, h2⟩ := hs
  obtain ⟨S, h3, h4⟩ := hs'
  exact ⟨_, h1.comp h3, h2.comp h4⟩
end

section
variable {n m l l' : Nat} {k x k' x' : Nat → V} {ls ls' : List Nat} {R : Nat → Nat → Prop}
end

section
variable {g h : Gr} {f : Nat → Nat}
end

inductive Along (R : Nat → Nat → Prop) : List Nat → List Nat → Prop
  | nil : Along R [] []
  | add {S T : List Nat} {a b : Nat} : Along R S T → R a b → Along R (S ++ [a]) (T ++ [b])

section
variable {R : Nat → Nat → Prop} {S T : List Nat}
theorem Along.left (h : Along R S T) : ∀ a ∈ S, ∃ b ∈ T, R a b := by
  induction h with
  | nil => intro a ha; cases ha
  | add h1 h2 ih =>
    intro a ha
    rcases List.mem_append.1 ha with ha | ha
    · obtain ⟨b, hb, hr⟩ := ih a ha
      exact ⟨b, List.mem_append.2 (Or.inl hb), hr⟩
    · obtain rfl := List.mem_singleton.1 ha
      exact ⟨_, List.mem_append.2 (Or.inr (List.mem_singleton.2 rfl)), h2⟩
theorem Along.right (h : Along R S T) : ∀ b ∈ T, ∃ a ∈ S, R a b := by
  induction h with
  | nil => intro a ha; cases ha
  | add h1 h2 ih =>
    intro a ha
    rcases List.mem_append.1 ha with ha | ha
    · obtain ⟨b, hb, hr⟩ := ih a ha
      exact ⟨b, List.mem_append.2 (Or.inl hb), hr⟩
    · obtain rfl := List.mem_singleton.1 ha
      exact ⟨_, List.mem_append.2 (Or.inr (List.mem_singleton.2 rfl)), h2⟩
theorem Along.len (h : Along R S T) : S.length = T.length := by
  induction h with
  | nil => rfl
  | add h1 h2 ih => simp [ih]
theorem Along.place (h : Along R S T) : ∀ (i a b : Nat), S[i]? = some a → T[i]? = some b → R a b := by
  induction h with
  | nil => intro i a b h; simp at h
  | @add S T a' b' h1 h2 ih =>
    intro i a b ha hb
    have hl := h1.len
    by_cases hi : i < S.length
    · rw [List.getElem?_append_left hi] at ha
      rw [List.getElem?_append_left (by omega)] at hb
      exact ih i a b ha hb
    · rw [List.getElem?_append_right (by omega)] at ha
      rw [List.getElem?_append_right (by omega)] at hb
      by_cases hz : i = S.length
      · subst hz
        rw [hl] at hb
        simp at ha hb
        rw [← ha, ← hb]
        exact h2
      · obtain ⟨d, hd⟩ : ∃ d, i - S.length = d + 1 := ⟨i - S.length - 1, by omega⟩
        rw [hd] at ha
        simp at ha
end

theorem met_sim {LA LB : Nat → Nat} {XA XB : Nat → Nat → V} {R : Nat → Nat → Prop} (h1 : ∀ i j j', R i j → R i j' → j = j') (h2 : ∀ i i' j, R i j → R i' j → i = i') (hp : ∀ i j, R i j → LA i = LB j ∧ ∀ c, c < LA i → relV R (XA i c) (XB j c)) :
    ∀ (f : Nat) (S T : List Nat) (v v' : V), Along R S T → relV R v v' → Along R (met LA XA f S v) (met LB XB f T v') := by
  intro f
  induction f with
  | zero => intro S T v v' h _; exact h
  | succ f ih =>
    intro S T v v' h hv
    by_cases hc : v.k = 4 ∧ v.a.toNat ∉ S
    · obtain ⟨h4, hn⟩ := hc
      have h4' : v'.k = 4 := hv.1.symm.trans h4
      have hr := hv.2.1 h4
      have hn' : v'.a.toNat ∉ T := fun hm => by
        obtain ⟨a, ha, e⟩ := h.right _ hm
        exact hn (h2 _ _ _ e hr ▸ ha)
      rw [met_new h4 hn, met_new h4' hn']
      obtain ⟨hl, hx⟩ := hp _ _ hr
      rw [← hl]
      have loop : ∀ c, c ≤ LA v.a.toNat → Along R (mets LA XA f (S ++ [v.a.toNat]) (XA v.a.toNat) c) (mets LB XB f (T ++ [v'.a.toNat]) (XB v'.a.toNat) c) := by
        intro c
        induction c with
        | zero => intro _; exact h.add hr
        | succ c ihc =>
          intro hc
          rw [mets_succ, mets_succ]
          exact ih _ _ _ _ (ihc (by omega)) (hx c (by omega))
      exact loop _ (Nat.le_refl _)
    · have o : v.k ≠ 4 ∨ v.a.toNat ∈ S := by
        by_cases h4 : v.k = 4
        · exact Or.inr (Classical.byContradiction fun hn => hc ⟨h4, hn⟩)
        · exact Or.inl h4
      have o' : v'.k ≠ 4 ∨ v'.a.toNat ∈ T := by
        by_cases h4 : v.k = 4
        · rcases o with o | o
          · exact absurd h4 o
          · obtain ⟨b, hb, e⟩ := h.left _ o
            exact Or.inr (h1 _ _ _ e (hv.2.1 h4) ▸ hb)
        · exact Or.inl (fun e => h4 (hv.1.trans e))
      rw [met_old o, met_old o']
      exact h

theorem met_fuel {n : Nat} {L : Nat → Nat} {X : Nat → Nat → V} (hg : Good n L X) : ∀ (f : Nat) (S : List Nat) (v : V), Fit n S → isV n v = true → n - S.length < f → met L X (f + 1) S v = met L X f S v := by
  intro f
  induction f with
  | zero => intro S v _ _ h; omega
  | succ f ih =>
    intro S v hS hv hf
    by_cases h : v.k = 4 ∧ v.a.toNat ∉ S
    · obtain ⟨h4, hn⟩ := h
      rw [met_new h4 hn, met_new h4 hn]
      obtain ⟨a0, a1⟩ := isV_tab hv h4
      have hr : v.a.toNat < n := by omega
      generalize v.a.toNat = r at *
      have hl := hS.less hr hn
      have h1 := hS.add hr hn
      have loop : ∀ c, c ≤ L r → Grows n (S ++ [r]) (mets L X f (S ++ [r]) (X r) c) ∧ mets L X (f + 1) (S ++ [r]) (X r) c = mets L X f (S ++ [r]) (X r) c := by
        intro c
        induction c with
        | zero => intro _; exact ⟨h1.fit.refl, rfl⟩
        | succ c ihc =>
          intro hc
          obtain ⟨g1, g2⟩ := ihc (by omega)
          rw [mets_succ, mets_succ, g2]
          have hlen := g1.len
          simp only [List.length_append, List.length_cons, List.length_nil] at hlen
          have hlt : n - (mets L X f (S ++ [r]) (X r) c).length < f := by omega
          exact ⟨g1.trans (met_all hg f _ _ g1.fit (hg r hr c (by omega)) hlt).1, ih _ _ g1.fit (hg r hr c (by omega)) hlt⟩
      exact (loop _ (Nat.le_refl _)).2
    · have o : v.k ≠ 4 ∨ v.a.toNat ∈ S := by
        by_cases h4 : v.k = 4
        · exact Or.inr (Classical.byContradiction fun hn => h ⟨h4, hn⟩)
        · exact Or.inl h4
      rw [met_old o, met_old o]

theorem met_fuels {n : Nat} {L : Nat → Nat} {X : Nat → Nat → V} (hg : Good n L X) {v : V} (hv : isV n v = true) (d : Nat) : met L X (n + 1 + d) [] v = met L X (n + 1) [] v := by
  induction d with
  | zero => rfl
  | succ d ih => rw [← ih]; exact met_fuel hg (n + 1 + d) [] v (Fit.nil n) hv (by simp; omega)

section
variable {n : Nat} {u : V} {L : Nat → Nat} {K X : Nat → Nat → V}
theorem renum_k (S : List Nat) (v : V) : (renum S v).k = v.k := by unfold renum; split <;> rfl
theorem renum_isV {S : List Nat} {v : V} (hv : isV n v = true) (hm : v.k = 4 → v.a.toNat ∈ S) : isV S.length (renum S v) = true := by
  unfold renum
  split
  · rename_i h4
    have hl := List.idxOf_lt_length_of_mem (hm h4)
    unfold isV at hv ⊢
    rw [if_neg (by omega), if_neg (by omega), if_neg (by omega), if_neg (by omega), if_pos h4] at hv
    show (if v.k = 0 then _ else if v.k = 1 then _ else if v.k = 2 then _ else if v.k = 3 then _ else if v.k = 4 then _ else false) = true
    rw [if_neg (by omega), if_neg (by omega), if_neg (by omega), if_neg (by omega), if_pos h4]
    simp only [Bool.and_eq_true, beq_iff_eq, decide_eq_true_eq] at hv ⊢
    exact ⟨hv.1, hv.2.1, by omega, by omega⟩
  · rename_i h4
    unfold isV at hv ⊢
    simp only [h4, if_false] at hv ⊢
    exact hv

theorem ord_at {S : List Nat} {j : Nat} (hj : j < S.length) : S[j]? = some (S.getD j 0) := by
  rw [List.getD_eq_getElem?_getD, List.getElem?_eq_getElem hj]
  rfl
theorem ord_mem {S : List Nat} {j : Nat} (hj : j < S.length) : S.getD j 0 ∈ S := List.mem_of_getElem? (ord_at hj)
theorem ord_inj {S : List Nat} (h : S.Nodup) {i j a : Nat} (hi : S[i]? = some a) (hj : S[j]? = some a) : i = j := by
  obtain ⟨l1, e1⟩ := List.getElem?_eq_some_iff.1 hi
  obtain ⟨l2, e2⟩ := List.getElem?_eq_some_iff.1 hj
  have hp := List.pairwise_iff_getElem.1 h
  rcases Nat.lt_trichotomy i j with hl | he | hl
  · exact absurd (e1.trans e2.symm) (hp i j l1 l2 hl)
  · exact he
  · exact absurd (e2.trans e1.symm) (hp j i l2 l1 hl)
theorem ord_idx {S : List Nat} {a : Nat} (h : a ∈ S) : S[S.idxOf a]? = some a := by
  rw [List.getElem?_eq_getElem (List.idxOf_lt_length_of_mem h), List.getElem_idxOf]

theorem okG_canon (h : OkG n u L K X) : OkG (order n u L X).length (renum (order n u L X) u) (cL (order n u L X) L) (cK (order n u L X) K) (cX (order n u L X) X) := by
  obtain ⟨h1, h2, h3⟩ := order_all h
  refine ⟨Nat.le_trans h1.len h.len, renum_isV h.root h3, fun r hr => ?_⟩
  have hm := ord_mem hr
  have ht := h.all _ (h1.lt _ hm)
  refine ⟨ht.len, fun c hc => ⟨(ht.all c hc).key, renum_isV (ht.all c hc).val (h2 _ hm c hc), ?_, (ht.all c hc).once⟩⟩
  show (renum _ _).k ≠ 0
  rw [renum_k]
  exact (ht.all c hc).some

theorem order_canon (h : OkG n u L K X) : order (order n u L X).length (renum (order n u L X) u) (cL (order n u L X) L) (cX (order n u L X) X) = List.range (order n u L X).length := by
  have hok := okG_canon h
  obtain ⟨h1, h2, h3⟩ := order_all h
  have hlen := h1.len
  obtain ⟨S, hS⟩ : ∃ S, order n u L X = S := ⟨_, rfl⟩
  rw [hS] at h1 h2 h3 hok hlen ⊢
  have rel : ∀ {v : V}, (v.k = 4 → v.a.toNat ∈ S) → relV (fun i j => S[j]? = some i) v (renum S v) := fun {v} hm => by
    refine ⟨(renum_k S v).symm, fun h4 => ?_, fun h4 => ?_⟩
    · unfold renum
      rw [if_pos h4]
      show S[((S.idxOf v.a.toNat : Nat) : Int).toNat]? = _
      rw [Int.toNat_natCast]
      exact ord_idx (hm h4)
    · unfold renum
      rw [if_neg h4]
  have sim := met_sim (LA := L) (XA := X) (LB := cL S L) (XB := cX S X) (R := fun i j => S[j]? = some i) (fun i j j' a b => ord_inj h1.nd a b) (fun i i' j a b => Option.some.inj (a.symm.trans b)) (fun i j hij => by
    have e : S.getD j 0 = i := by rw [List.getD_eq_getElem?_getD, hij]; rfl
    refine ⟨by unfold cL; rw [e], fun c hc => ?_⟩
    unfold cX
    rw [e]
    exact rel (h2 i (List.mem_of_getElem? hij) c hc)) (n + 1) [] [] u (renum S u) Along.nil (rel h3)
  have hS' : met L X (n + 1) [] u = S := hS
  rw [hS'] at sim
  have e : order S.length (renum S u) (cL S L) (cX S X) = met (cL S L) (cX S X) (n + 1) [] (renum S u) := by
    unfold order
    rw [show n + 1 = S.length + 1 + (n - S.length) by omega]
    exact (met_fuels (good_of hok) hok.root _).symm
  rw [e]
  refine List.ext_getElem? fun i => ?_
  by_cases hi : i < S.length
  · rw [List.getElem?_range hi]
    have hl := sim.len
    rw [List.getElem?_eq_getElem (by omega)]
    have := sim.place i _ _ (ord_at hi) (List.getElem?_eq_getElem (show i < _ by omega))
    rw [ord_inj h1.nd this (ord_at hi)]
  · have hl := sim.len
    rw [List.getElem?_eq_none (by omega), List.getElem?_eq_none (by simp; omega)]

end

end Go.Proofs.YtgflalfiopnmnaaGreatDoor

namespace Go.Proofs.YtgflalfiopnmnaaGreatDoor
open Vl

def LedV (n tw : Nat) (v v' : V) : Prop := (v.k = 4 → ∃ q, q < tw ∧ v' = ⟨v.k, v.n, v.s, v.a + ((n * q : Nat) : Int)⟩) ∧ (v.k ≠ 4 → v' = v)

structure TurnT (n tw l : Nat) (k x : Nat → V) (l' : Nat) (k' x' : Nat → V) : Prop where
  len : l' = l
  ex : ∃ fr, (0 < l → fr < l) ∧ ∀ c, c < l → k' c = k ((fr + c) % l) ∧ LedV n tw (x ((fr + c) % l)) (x' c)

theorem rot_eq {fr l c : Nat} (hf : fr < l) (hc : c < l) : (fr + c) % l = if fr + c < l then fr + c else fr + c - l := by
  split
  · rename_i h
    exact Nat.mod_eq_of_lt h
  · rw [Nat.mod_eq_sub_mod (by omega)]
    exact Nat.mod_eq_of_lt (by omega)
theorem rot_lt {fr l c : Nat} (hc : c < l) : (fr + c) % l < l := Nat.mod_lt _ (by omega)
theorem rot_ne {fr l j c : Nat} (hf : fr < l) (hj : j < c) (hc : c < l) : (fr + j) % l ≠ (fr + c) % l := by
  rw [rot_eq hf hc, rot_eq hf (by omega)]
  split <;> split <;> omega
theorem rot_back {fr l c : Nat} (hf : fr < l) (hc : c < l) : ∃ d, d < l ∧ (fr + d) % l = c := by
  refine ⟨if fr ≤ c then c - fr else c + l - fr, by split <;> omega, ?_⟩
  rw [rot_eq hf (by split <;> omega)]
  split <;> split <;> omega

section
variable {n tw : Nat} {v v' : V}
theorem LedV.kind (h : LedV n tw v v') : v'.k = v.k := by
  by_cases h4 : v.k = 4
  · obtain ⟨q, _, e⟩ := h.1 h4
    rw [e]
  · rw [h.2 h4]
theorem LedV.size (h : LedV n tw v v') : v'.s = v.s ∧ v'.n = v.n := by
  by_cases h4 : v.k = 4
  · obtain ⟨q, _, e⟩ := h.1 h4
    rw [e]
    exact ⟨rfl, rfl⟩
  · rw [h.2 h4]
    exact ⟨rfl, rfl⟩
theorem mul_room {a q : Nat} (ha : a < n) (hq : q < tw) : a + n * q < n * tw := by
  have h1 : n * (q + 1) ≤ n * tw := Nat.mul_le_mul_left _ hq
  rw [Nat.mul_add, Nat.mul_one] at h1
  omega
theorem LedV.tab (h : LedV n tw v v') (hv : isV n v = true) (h4 : v.k = 4) : v'.a.toNat < n * tw ∧ v'.a.toNat % n = v.a.toNat ∧ v.a.toNat < n ∧ 0 ≤ v'.a := by
  obtain ⟨q, hq, e⟩ := h.1 h4
  obtain ⟨a0, a1⟩ := isV_tab hv h4
  have ha : v'.a.toNat = v.a.toNat + n * q := by
    rw [e]
    show (v.a + ((n * q : Nat) : Int)).toNat = _
    omega
  have hr := mul_room (n := n) (tw := tw) (a := v.a.toNat) (by omega) hq
  refine ⟨by omega, ?_, by omega, ?_⟩
  · rw [ha, Nat.add_mul_mod_self_left]
    exact Nat.mod_eq_of_lt (by omega)
  · rw [e]
    show 0 ≤ v.a + ((n * q : Nat) : Int)
    omega
theorem LedV.isV (h : LedV n tw v v') (hv : Vl.isV n v = true) : Vl.isV (n * tw) v' = true := by
  by_cases h4 : v.k = 4
  · obtain ⟨t1, _, t3, t4⟩ := h.tab hv h4
    obtain ⟨q, hq, e⟩ := h.1 h4
    obtain ⟨a0, a1⟩ := isV_tab hv h4
    unfold Vl.isV at hv ⊢
    rw [if_neg (by omega), if_neg (by omega), if_neg (by omega), if_neg (by omega), if_pos h4] at hv
    have h4' : v'.k = 4 := h.kind.trans h4
    rw [if_neg (by omega), if_neg (by omega), if_neg (by omega), if_neg (by omega), if_pos h4']
    simp only [Bool.and_eq_true, beq_iff_eq, decide_eq_true_eq] at hv ⊢
    refine ⟨by rw [h.size.2]; exact hv.1, by rw [h.size.1]; exact hv.2.1, t4, by omega⟩
  · rw [h.2 h4]
    unfold Vl.isV at hv ⊢
    simp only [h4, if_false] at hv ⊢
    exact hv
end

theorem TurnT.ok {n tw l : Nat} {k x : Nat → V} {l' : Nat} {k' x' : Nat → V} (h : TurnT n tw l k x l' k' x') (ho : OkT n l k x) : OkT (n * tw) l' k' x' := by
  obtain ⟨rfl, fr, hf, hc⟩ := h
  refine ⟨ho.len, fun c hcl => ?_⟩
  have hfl := hf (by omega)
  have hr := rot_lt (fr := fr) hcl
  obtain ⟨e1, e2⟩ := hc c hcl
  refine ⟨by rw [e1]; exact (ho.all _ hr).key, e2.isV (ho.all _ hr).val, by rw [e2.kind]; exact (ho.all _ hr).some, fun j hj => ?_⟩
  rw [e1, (hc j (by omega)).1]
  cases e : eqV (k ((fr + j) % l')) (k ((fr + c) % l')) with
  | false => rfl
  | true => exact absurd (eqV_iff.1 e) (Vl.OkT.once ho (rot_lt (by omega)) hr (rot_ne hfl hj hcl))

theorem TurnT.rel {n tw l : Nat} {k x : Nat → V} {l' : Nat} {k' x' : Nat → V} (h : TurnT n tw l k x l' k' x') (ho : OkT n l k x) (z : V) : LedV n tw (atKey l k x z) (atKey l' k' x' z) := by
  have ho' := h.ok ho
  obtain ⟨rfl, fr, hf, hc⟩ := h
  by_cases hz : z ∈ keys k l'
  · obtain ⟨c, hcl, rfl⟩ := Aw.mem_keys.1 hz
    obtain ⟨d, hd, e⟩ := rot_back (hf (by omega)) hcl
    obtain ⟨e1, e2⟩ := hc d hd
    rw [e] at e1 e2
    rw [Aw.atKey_at ho hcl, ← e1, Aw.atKey_at ho' hd]
    exact e2
  · have hz' : z ∉ keys k' l' := fun hm => by
      obtain ⟨c, hcl, rfl⟩ := Aw.mem_keys.1 hm
      exact hz (Aw.mem_keys.2 ⟨_, rot_lt hcl, (hc c hcl).1.symm⟩)
    rw [Aw.atKey_no hz, Aw.atKey_no hz']
    exact ⟨fun e => by simp [zeroV] at e, fun _ => rfl⟩

end Go.Proofs.YtgflalfiopnmnaaGreatDoor

namespace Go.Proofs.YtgflalfiopnmnaaGreatDoor
open Go.RowKit Vl

theorem ValB.only {w w' : World} {B CB : Nat} {v : V} (h : ValB w B v) (ho : Only (fun k => k = CB) w w') (hne : B ≠ CB) : ValB w' B v := (ho.block B (blk_lt h) hne).trans h
end Go.Proofs.YtgflalfiopnmnaaGreatDoor

namespace Go.Proofs.YtgflalfiopnmnaaGreatDoor
open Go.RowKit Vl

end Go.Proofs.YtgflalfiopnmnaaGreatDoor

namespace Go.Proofs.YtgflalfiopnmnaaGreatDoor
open Go.RowKit Vl

def fineV (v : V) : Prop := v.s.size ≤ 500 ∧ -9223372036854775808 ≤ v.n ∧ v.n ≤ 9223372036854775807
structure FineG (n : Nat) (u : V) (L : Nat → Nat) (K X : Nat → Nat → V) : Prop where
  root : fineV u
  all : ∀ r, r < n → L r ≤ 200 ∧ ∀ c, c < L r → fineV (K r c) ∧ fineV (X r c)
theorem FineG.small {n : Nat} {u : V} {L : Nat → Nat} {K X : Nat → Nat → V} (h : FineG n u L K X) : Small 1048576 n L K X := fun r hr => ⟨by have := (h.all r hr).1; omega, fun c hc => by
  have h2 := (h.all r hr).2 c hc
  have h3 := h2.1.1
  have h4 := h2.2.1
  exact ⟨by omega, by omega⟩⟩

theorem DrG.ok {w' : World} {base n : Nat} {tv : Value} {PV : Nat → Value} {L : Nat → Nat} {K X : Nat → Nat → V} {u : V} (h : DrG w' base tv n PV L K X n) (hu : valP n u) (hn : n ≤ 200) : OkG n u L K X ∧ FineG n u L K X := by
  refine ⟨⟨hn, hu.2.1, fun r hr => ⟨(h.all r hr).1, fun c hc => ?_⟩⟩, ⟨⟨hu.1, hu.2.2.2⟩, fun r hr => ⟨by have := (h.all r hr).1; omega, fun c hc => ?_⟩⟩⟩
  · have hp := (h.all r hr).2
    exact ⟨(hp.key c hc).2.1, (hp.val c hc).2.1, (hp.val c hc).2.2.1, hp.once c hc⟩
  · have hp := (h.all r hr).2
    exact ⟨⟨(hp.key c hc).1, (hp.key c hc).2.2⟩, ⟨(hp.val c hc).1, (hp.val c hc).2.2.2⟩⟩

end Go.Proofs.YtgflalfiopnmnaaGreatDoor

namespace Go.Proofs.YtgflalfiopnmnaaGreatDoor
open Go.RowKit Vl

theorem rdD_start {B : Nat → Nat} {w wa : World} {ca : Option Addr} {cl cc cb co CB : Nat} (hB : ByteD w ca cl cb co B) (hcl : cl ≤ 1048576) (hb : Below w.heap.size w wa) (hc : wa.heap[CB]? = some (.cells #[.slice ca cl cc, .int .i64 0, .int .u64 0] 51 (0, 0))) (hCB : w.heap.size ≤ CB) : RdD B wa CB ca cl cc cb co 0 ⟨0, 0⟩ := by
  refine ⟨hc, Nat.le_refl _, fun i hi => ?_, fun h e => ?_, hcl⟩
  · obtain ⟨e, hx, hcell⟩ := hB i hi
    exact ⟨e, hx, (hb.cell (p := ⟨cb, co + i, none⟩) (World.block_lt_of_cell? _ _ hcell)).trans hcell⟩
  · obtain ⟨_, _, hcell⟩ := hB 0 h
    have := World.block_lt_of_cell? _ _ hcell
    simp at this
    omega

set_option maxHeartbeats 1000000 in
set_option maxRecDepth 100000 in
theorem drawnD_any (B : Nat → Nat) (ca : Option Addr) (cl cc cb co : Nat) (w : World) (hB : ByteD w ca cl cb co B) (hcl : cl ≤ 1048576) :
    Calls Tryz.prog 6 #[.slice ca cl cc] w fun e w' => (∃ (n : Nat) (u : V) (tv : Value) (PV : Nat → Value) (L : Nat → Nat) (K X : Nat → Nat → V) (base : Nat), w.heap.size ≤ base ∧ e = .returned (.agg #[.int .i64 u.k, .int .i64 u.n, .string u.s, .int .i64 u.a, tv]) ∧ OkG n u L K X ∧ FineG n u L K X ∧ OTab w' base tv n PV L K X ∧ graphF B cl ⟨0, 0⟩ = (n, u, tbL n L K X)) ∧ Below w.heap.size w w' := by
  have A2 := alloc2 w (.cells #[.int .i64 0, .int .i64 0, .string ⟨#[]⟩, .int .i64 0, .slice none 0 0] 27) (.cells #[.slice ca cl cc, .int .i64 0, .int .u64 0] 51)
  obtain ⟨wa, hwa⟩ : ∃ wa, wa = (w.alloc (.cells #[.int .i64 0, .int .i64 0, .string ⟨#[]⟩, .int .i64 0, .slice none 0 0] 27)).alloc (.cells #[.slice ca cl cc, .int .i64 0, .int .u64 0] 51) := ⟨_, rfl⟩
  rw [← hwa] at A2
  have HZa : Hid (OutB wa w.heap.size zeroV (.slice none 0 0)) := A2.1
  have hsa : Hid (wa.heap.size = w.heap.size + 2) := A2.2.2.1
  have HBa : Hid (Below w.heap.size w wa) := A2.2.2.2
  have hg := graphD_any B ⟨0, 0⟩ wa (w.heap.size + 1) ca cl cc cb co 0 (rdD_start hB hcl A2.2.2.2 A2.2.1 (by omega)) (by omega)
  clear A2 hB
  go_enter Tryz.func6, Tryz.ntmps6
  go_wp2_with fail
  rw [← hwa]
  clear hwa
  refine hg.mono ?_
  clear hg
  rintro e w1 ⟨⟨n, u, tv, PV, L, K, X, base, hn, hb, rfl, hu, hD, hGF⟩, hO⟩
  have HGF : Hid _ := hGF
  clear hGF
  have hbase : w.heap.size + 2 < base := by have := hsa.out; omega
  have HZ1 : Hid (OutB w1 w.heap.size zeroV (.slice none 0 0)) := (hO.block _ (blk_lt HZa.out) (by omega)).trans HZa.out
  obtain ⟨hok, hfi⟩ := hD.ok hu hn
  have HK : Hid (OkG n u L K X) := hok
  have HF : Hid (FineG n u L K X) := hfi
  have HD : Hid (OTab w1 base tv n PV L K X) := hD.tab
  have HB1 : Hid (Below w.heap.size w w1) := HBa.out.trans (hO.toBelow (fun k e => by omega) (by have := hsa.out; omega))
  have hs1 : w.heap.size ≤ w1.heap.size := HB1.out.size
  obtain ⟨oa, oc, rfl, _⟩ := owns_form HD.out.own
  clear hok hfi hD hO hu
  obtain ⟨r0, r1, r2, r3, r4, r5⟩ := cells5 HZ1.out
  simp only [zeroV] at r0 r1 r2 r3
  go_wp2
  have F := put5hi (put5lo HZ1.out (.int .i64 u.k) (.int .i64 u.n) (.string u.s) (.int .i64 u.a)) (.slice oa n oc)
  obtain ⟨wf, hwf⟩ : ∃ wf, wf = ((((w1.setCell ⟨w.heap.size, 0, none⟩ (.int .i64 u.k)).setCell ⟨w.heap.size, 1, none⟩ (.int .i64 u.n)).setCell ⟨w.heap.size, 2, none⟩ (.string u.s)).setCell ⟨w.heap.size, 3, none⟩ (.int .i64 u.a)).setCell ⟨w.heap.size, 4, none⟩ (.slice oa n oc) := ⟨_, rfl⟩
  have ho : Only (fun k => k = w.heap.size) w1 wf := by rw [hwf]; exact set4_only.set (p := ⟨w.heap.size, 4, none⟩) rfl _
  rw [← hwf] at F ⊢
  clear hwf
  obtain ⟨q0, q1, q2, q3, q4, _⟩ := cells5 F
  refine bodyPost_ret (v := .agg #[.int .i64 u.k, .int .i64 u.n, .string u.s, .int .i64 u.a, .slice oa n oc]) (by simp [results, Tryz.results6, go_sem, q0, q1, q2, q3, q4]) rfl ⟨⟨n, u, _, PV, L, K, X, base, by omega, rfl, HK.out, HF.out, HD.out.only ho (fun k hk e => by omega), HGF.out⟩, ?_⟩
  exact HB1.out.trans (ho.toBelow (fun k e => by omega) hs1)

theorem drawn_one {B : Nat → Nat} {cl n n' : Nat} {σ : Sd} {u u' : V} {L L' : Nat → Nat} {K X K' X' : Nat → Nat → V} (h : graphF B cl σ = (n, u, tbL n L K X)) (h' : graphF B cl σ = (n', u', tbL n' L' K' X')) : n' = n ∧ u' = u ∧ ∀ j, j < n → L' j = L j ∧ ∀ c, c < L j → K' j c = K j c ∧ X' j c = X j c := by
  rw [h] at h'
  simp only [Prod.mk.injEq] at h'
  obtain ⟨rfl, rfl, e⟩ := h'
  refine ⟨rfl, rfl, fun j hj => ?_⟩
  obtain ⟨e1, e2⟩ := tbL_inj e j hj
  exact ⟨e1.symm, fun c hc => ⟨(e2 c hc).1.symm, (e2 c hc).2.symm⟩⟩
theorem ByteD.below {B : Nat → Nat} {w w' : World} {ca : Option Addr} {cl cb co : Nat} (h : ByteD w ca cl cb co B) (hb : Below w.heap.size w w') : ByteD w' ca cl cb co B := fun i hi => by
  obtain ⟨e, hx, hc⟩ := h i hi
  exact ⟨e, hx, (hb.cell (p := ⟨cb, co + i, none⟩) (World.block_lt_of_cell? _ _ hc)).trans hc⟩

end Go.Proofs.YtgflalfiopnmnaaGreatDoor

namespace Go.Proofs.YtgflalfiopnmnaaGreatDoor
open Vl

/-! ### The count -/
def bump (Q : Nat → Nat) (r : Nat) : Nat → Nat := fun i => if i = r then Q r + 1 else Q i

def cnt (L : Nat → Nat) (X : Nat → Nat → V) : Nat → (Nat → Nat) → V → (Nat → Nat)
  | 0, Q, _ => Q
  | f + 1, Q, v => if v.k = 4 then (if Q v.a.toNat = 0 then (List.range (L v.a.toNat)).foldl (fun U c => cnt L X f U (X v.a.toNat c)) (bump Q v.a.toNat) else bump Q v.a.toNat) else Q
def cnts (L : Nat → Nat) (X : Nat → Nat → V) (f : Nat) (Q : Nat → Nat) (x : Nat → V) (c : Nat) : Nat → Nat := (List.range c).foldl (fun U c => cnt L X f U (x c)) Q

theorem cnts_zero (L : Nat → Nat) (X : Nat → Nat → V) (f : Nat) (Q : Nat → Nat) (x : Nat → V) : cnts L X f Q x 0 = Q := rfl
theorem cnts_succ (L : Nat → Nat) (X : Nat → Nat → V) (f : Nat) (Q : Nat → Nat) (x : Nat → V) (c : Nat) : cnts L X f Q x (c + 1) = cnt L X f (cnts L X f Q x c) (x c) := by
  simp [cnts, List.range_succ]
theorem cnt_new {L : Nat → Nat} {X : Nat → Nat → V} {f : Nat} {Q : Nat → Nat} {v : V} (h : v.k = 4) (h0 : Q v.a.toNat = 0) : cnt L X (f + 1) Q v = cnts L X f (bump Q v.a.toNat) (X v.a.toNat) (L v.a.toNat) := by
  show (if v.k = 4 then _ else Q) = _
  rw [if_pos h, if_pos h0]
  rfl
theorem cnt_old {L : Nat → Nat} {X : Nat → Nat → V} {f : Nat} {Q : Nat → Nat} {v : V} (h : v.k = 4) (h0 : Q v.a.toNat ≠ 0) : cnt L X (f + 1) Q v = bump Q v.a.toNat := by
  show (if v.k = 4 then _ else Q) = _
  rw [if_pos h, if_neg h0]
theorem cnt_no {L : Nat → Nat} {X : Nat → Nat → V} {f : Nat} {Q : Nat → Nat} {v : V} (h : v.k ≠ 4) : cnt L X f Q v = Q := by
  cases f with
  | zero => rfl
  | succ f =>
    show (if v.k = 4 then _ else Q) = _
    rw [if_neg h]

theorem bump_le (Q : Nat → Nat) (r i : Nat) : Q i ≤ bump Q r i := by
  unfold bump
  split
  · rename_i h; subst h; omega
  · exact Nat.le_refl _
theorem cnt_le (L : Nat → Nat) (X : Nat → Nat → V) : ∀ (f : Nat) (Q : Nat → Nat) (v : V) (i : Nat), Q i ≤ cnt L X f Q v i := by
  intro f
  induction f with
  | zero => intro Q v i; exact Nat.le_refl _
  | succ f ih =>
    intro Q v i
    by_cases h4 : v.k = 4
    · by_cases h0 : Q v.a.toNat = 0
      · rw [cnt_new h4 h0]
        have : ∀ c, Q i ≤ cnts L X f (bump Q v.a.toNat) (X v.a.toNat) c i := by
          intro c
          induction c with
          | zero => exact bump_le _ _ _
          | succ c ihc => rw [cnts_succ]; exact Nat.le_trans ihc (ih _ _ _)
        exact this _
      · rw [cnt_old h4 h0]; exact bump_le _ _ _
    · rw [cnt_no h4]; exact Nat.le_refl _
theorem cnts_le (L : Nat → Nat) (X : Nat → Nat → V) (f : Nat) (Q : Nat → Nat) (x : Nat → V) (i : Nat) {c d : Nat} (h : c ≤ d) : cnts L X f Q x c i ≤ cnts L X f Q x d i := by
  obtain ⟨e, rfl⟩ := Nat.le.dest h
  clear h
  induction e with
  | zero => exact Nat.le_refl _
  | succ e ih => rw [← Nat.add_assoc, cnts_succ]; exact Nat.le_trans ih (cnt_le _ _ _ _ _ _)

def Led (S : List Nat) (Q : Nat → Nat) : Prop := ∀ i, Q i = 0 ↔ i ∉ S
theorem led_add {S : List Nat} {Q : Nat → Nat} (h : Led S Q) (r : Nat) : Led (S ++ [r]) (bump Q r) := by
  intro i
  unfold bump
  by_cases e : i = r
  · subst e; simp
  · rw [if_neg e, h i]; simp [e]
theorem led_old {S : List Nat} {Q : Nat → Nat} (h : Led S Q) {r : Nat} (hr : r ∈ S) : Led S (bump Q r) := by
  intro i
  unfold bump
  by_cases e : i = r
  · subst e; simp [hr]
  · rw [if_neg e, h i]
theorem led_nil : Led [] (fun _ => 0) := fun i => by simp
theorem led_cnt {L : Nat → Nat} {X : Nat → Nat → V} : ∀ (f : Nat) {S : List Nat} {Q : Nat → Nat} (v : V), Led S Q → Led (met L X f S v) (cnt L X f Q v) := by
  intro f
  induction f with
  | zero => intro S Q v h; exact h
  | succ f ih =>
    intro S Q v h
    by_cases h4 : v.k = 4
    · by_cases h0 : Q v.a.toNat = 0
      · rw [cnt_new h4 h0, met_new h4 ((h _).1 h0)]
        have : ∀ c, Led (mets L X f (S ++ [v.a.toNat]) (X v.a.toNat) c) (cnts L X f (bump Q v.a.toNat) (X v.a.toNat) c) := by
          intro c
          induction c with
          | zero => exact led_add h _
          | succ c ihc => rw [cnts_succ, mets_succ]; exact ih _ ihc
        exact this _
      · have hm : v.a.toNat ∈ S := Classical.byContradiction fun hn => h0 ((h _).2 hn)
        rw [cnt_old h4 h0, met_old (Or.inr hm)]
        exact led_old h hm
    · rw [cnt_no h4, met_old (Or.inl h4)]; exact h
theorem led_cnts {L : Nat → Nat} {X : Nat → Nat → V} (f : Nat) {S : List Nat} {Q : Nat → Nat} (x : Nat → V) (h : Led S Q) (c : Nat) : Led (mets L X f S x c) (cnts L X f Q x c) := by
  induction c with
  | zero => exact h
  | succ c ih => rw [cnts_succ, mets_succ]; exact led_cnt f _ ih

/-! ### The text -/
def hexB (d : Nat) : UInt8 := if d < 10 then UInt8.ofNat (48 + d) else UInt8.ofNat (87 + d)
def quB (b : UInt8) : List UInt8 := if b = 34 ∨ b = 92 then [92, b] else if b.toNat < 32 ∨ 126 < b.toNat then [92, hexB (b.toNat / 16), hexB (b.toNat % 16)] else [b]
def quB' : List UInt8 → List UInt8
  | [] => []
  | b :: l => quB b ++ quB' l
theorem quB'_snoc : ∀ (l : List UInt8) (b : UInt8), quB' (l ++ [b]) = quB' l ++ quB b
  | [], b => by simp [quB']
  | c :: l, b => by simp [quB', quB'_snoc l b]
theorem quB_len (b : UInt8) : (quB b).length ≤ 3 := by
  unfold quB
  split
  · simp
  · split <;> simp
theorem quB'_len : ∀ l : List UInt8, (quB' l).length ≤ 3 * l.length
  | [] => Nat.le_refl _
  | b :: l => by
    have := quB'_len l
    have := quB_len b
    simp only [quB', List.length_append, List.length_cons]
    omega
def quT (s : ByteArray) : List UInt8 := 34 :: (quB' s.data.toList ++ [34])
def tNil : List UInt8 := [110, 105, 108]
def tTrue : List UInt8 := [116, 114, 117, 101]
def tFalse : List UInt8 := [102, 97, 108, 115, 101]
def plT (v : V) : List UInt8 := if v.k = 1 then (if v.n = 1 then tTrue else tFalse) else if v.k = 2 then Lib.itoa v.n else if v.k = 3 then quT v.s else tNil

theorem dec_len : ∀ (k u : Nat), u < 10 ^ (k + 1) → (Lib.decDigits u).length ≤ k + 1 := by
  intro k
  induction k with
  | zero => intro u h; rw [Lib.decDigits, dif_pos (by simpa using h)]; simp
  | succ k ih =>
    intro u h
    rw [Lib.decDigits]
    split
    · simp
    · have := ih (u / 10) (by rw [Nat.div_lt_iff_lt_mul (by decide)]; rw [Nat.pow_succ] at h; exact h)
      simp only [List.length_append, List.length_cons, List.length_nil]
      omega
theorem itoa_len {n : Int} (h0 : -9223372036854775808 ≤ n) (h1 : n ≤ 9223372036854775807) : (Lib.itoa n).length ≤ 20 := by
  unfold Lib.itoa
  split
  · have := dec_len 18 n.natAbs (by omega)
    simp only [List.length_cons]; omega
  · have := dec_len 18 n.toNat (by omega)
    omega

def shortV (v : V) : Prop := v.s.size ≤ 500 ∧ -9223372036854775808 ≤ v.n ∧ v.n ≤ 9223372036854775807
theorem plT_len {v : V} (h : shortV v) : (plT v).length ≤ 1502 := by
  unfold plT
  split
  · split <;> decide
  · split
    · have := itoa_len h.2.1 h.2.2; omega
    · split
      · have := quB'_len v.s.data.toList
        have h1 := h.1
        have : v.s.data.toList.length = v.s.size := by rw [Array.length_toList]; rfl
        simp only [quT, List.length_cons, List.length_append, List.length_nil]
        omega
      · decide

structure Ft where
  N : Nat
  lab : Nat → Nat
  out : List UInt8
def Ft.say (t : Ft) (l : List UInt8) : Ft := ⟨t.N, t.lab, t.out ++ l⟩
def Ft.head (Q : Nat → Nat) (t : Ft) (r : Nat) : Ft := if 1 < Q r then ⟨t.N + 1, fun i => if i = r then t.N + 1 else t.lab i, t.out ++ (35 :: (Lib.itoa (t.N + 1 : Nat) ++ [61])) ++ [123]⟩ else t.say [123]
def keyT (K : Nat → V) (c : Nat) : List UInt8 := (if 0 < c then [44, 32] else []) ++ plT (K c) ++ [58, 32]

def frz (Q : Nat → Nat) (L : Nat → Nat) (K X : Nat → Nat → V) : Nat → Ft → V → Ft
  | 0, t, _ => t
  | f + 1, t, v => if v.k = 4 then
      (if 0 < t.lab v.a.toNat then t.say (35 :: Lib.itoa (t.lab v.a.toNat : Nat))
       else ((List.range (L v.a.toNat)).foldl (fun u c => frz Q L K X f (u.say (keyT (K v.a.toNat) c)) (X v.a.toNat c)) (t.head Q v.a.toNat)).say [125])
      else t.say (plT v)
def wrs (Q : Nat → Nat) (L : Nat → Nat) (K X : Nat → Nat → V) (f : Nat) (t : Ft) (r c : Nat) : Ft := (List.range c).foldl (fun u c => frz Q L K X f (u.say (keyT (K r) c)) (X r c)) t
section
variable {Q : Nat → Nat} {L : Nat → Nat} {K X : Nat → Nat → V}
theorem wrs_zero (f : Nat) (t : Ft) (r : Nat) : wrs Q L K X f t r 0 = t := rfl
theorem wrs_succ (f : Nat) (t : Ft) (r c : Nat) : wrs Q L K X f t r (c + 1) = frz Q L K X f ((wrs Q L K X f t r c).say (keyT (K r) c)) (X r c) := by
  simp [wrs, List.range_succ]
theorem wr_no {f : Nat} {t : Ft} {v : V} (h : v.k ≠ 4) : frz Q L K X (f + 1) t v = t.say (plT v) := by
  show (if v.k = 4 then _ else _) = _
  rw [if_neg h]
theorem wr_old {f : Nat} {t : Ft} {v : V} (h : v.k = 4) (hl : 0 < t.lab v.a.toNat) : frz Q L K X (f + 1) t v = t.say (35 :: Lib.itoa (t.lab v.a.toNat : Nat)) := by
  show (if v.k = 4 then _ else _) = _
  rw [if_pos h, if_pos hl]
theorem wr_new {f : Nat} {t : Ft} {v : V} (h : v.k = 4) (hl : t.lab v.a.toNat = 0) : frz Q L K X (f + 1) t v = (wrs Q L K X f (t.head Q v.a.toNat) v.a.toNat (L v.a.toNat)).say [125] := by
  show (if v.k = 4 then _ else _) = _
  rw [if_pos h, if_neg (by omega)]
  rfl

theorem head_len (t : Ft) (r : Nat) : t.out.length + 1 ≤ (t.head Q r).out.length := by
  unfold Ft.head
  split <;> simp [Ft.say] <;> omega
theorem say_len (t : Ft) (l : List UInt8) : (t.say l).out.length = t.out.length + l.length := by simp [Ft.say]
theorem wr_mono : ∀ (f : Nat) (t : Ft) (v : V), t.out.length ≤ (frz Q L K X f t v).out.length := by
  intro f
  induction f with
  | zero => intro t v; exact Nat.le_refl _
  | succ f ih =>
    intro t v
    by_cases h4 : v.k = 4
    · by_cases hl : t.lab v.a.toNat = 0
      · rw [wr_new h4 hl, say_len]
        have : ∀ c, t.out.length ≤ (wrs Q L K X f (t.head Q v.a.toNat) v.a.toNat c).out.length := by
          intro c
          induction c with
          | zero => have := head_len (Q := Q) t v.a.toNat; rw [wrs_zero]; omega
          | succ c ihc =>
            rw [wrs_succ]
            have := ih ((wrs Q L K X f (t.head Q v.a.toNat) v.a.toNat c).say (keyT (K v.a.toNat) c)) (X v.a.toNat c)
            rw [say_len] at this
            omega
        have := this (L v.a.toNat)
        omega
      · rw [wr_old h4 (by omega), say_len]; omega
    · rw [wr_no h4, say_len]; omega
theorem wrs_mono (f : Nat) (t : Ft) (r : Nat) {c d : Nat} (h : c ≤ d) : (wrs Q L K X f t r c).out.length ≤ (wrs Q L K X f t r d).out.length := by
  obtain ⟨e, rfl⟩ := Nat.le.dest h
  clear h
  induction e with
  | zero => exact Nat.le_refl _
  | succ e ih =>
    rw [← Nat.add_assoc, wrs_succ]
    have := wr_mono (Q := Q) (L := L) (K := K) (X := X) f ((wrs Q L K X f t r (c + e)).say (keyT (K r) (c + e))) (X r (c + e))
    rw [say_len] at this
    omega

structure Wok (n : Nat) (Q : Nat → Nat) (S : List Nat) (t : Ft) : Prop where
  lab : ∀ i, 0 < t.lab i ↔ i ∈ S ∧ 1 < Q i
  top : ∀ i, t.lab i ≤ t.N
  few : t.N ≤ S.length
theorem Wok.say {n : Nat} {S : List Nat} {t : Ft} (h : Wok n Q S t) (l : List UInt8) : Wok n Q S (t.say l) := ⟨h.lab, h.top, h.few⟩
theorem Wok.head {n : Nat} {S : List Nat} {t : Ft} (h : Wok n Q S t) {r : Nat} (hr : r ∉ S) : Wok n Q (S ++ [r]) (t.head Q r) := by
  unfold Ft.head
  split
  · rename_i hq
    refine ⟨fun i => ?_, fun i => ?_, by have := h.few; simp; omega⟩
    · show 0 < (if i = r then t.N + 1 else t.lab i) ↔ _
      by_cases e : i = r
      · subst e; simp [hq]
      · rw [if_neg e, h.lab i]; simp [e]
    · show (if i = r then t.N + 1 else t.lab i) ≤ t.N + 1
      have := h.top i
      split <;> omega
  · rename_i hq
    refine ⟨fun i => ?_, h.top, by have := h.few; simp [Ft.say]; omega⟩
    show 0 < t.lab i ↔ _
    rw [h.lab i]
    by_cases e : i = r
    · subst e; simp [hq]
    · simp [e]

structure Wat (n : Nat) (Q : Nat → Nat) (L : Nat → Nat) (X : Nat → Nat → V) (f : Nat) (S : List Nat) (Q0 : Nat → Nat) (t : Ft) (v : V) : Prop where
  fit : Fit n S
  led : Led S Q0
  ok : Wok n Q S t
  le : ∀ i, cnt L X f Q0 v i ≤ Q i
  fuel : n - S.length < f
  val : isV n v = true

theorem Wat.old {n f : Nat} {S : List Nat} {Q0 : Nat → Nat} {t : Ft} {v : V} (h : Wat n Q L X (f + 1) S Q0 t v) (h4 : v.k = 4) (hm : v.a.toNat ∈ S) : 0 < t.lab v.a.toNat := by
  refine (h.ok.lab _).2 ⟨hm, ?_⟩
  have h0 : Q0 v.a.toNat ≠ 0 := fun e => ((h.led _).1 e) hm
  have := h.le v.a.toNat
  rw [cnt_old h4 h0] at this
  simp [bump] at this
  omega
theorem Wat.none {n f : Nat} {S : List Nat} {Q0 : Nat → Nat} {t : Ft} {v : V} (h : Wat n Q L X f S Q0 t v) (hm : v.a.toNat ∉ S) : t.lab v.a.toNat = 0 := by
  have := mt (h.ok.lab v.a.toNat).1 (fun h => hm h.1)
  omega

structure Wmid (n : Nat) (Q : Nat → Nat) (L : Nat → Nat) (X : Nat → Nat → V) (f : Nat) (S : List Nat) (Q0 : Nat → Nat) (t : Ft) (r c : Nat) : Prop where
  fit : Grows n S (mets L X f S (X r) c)
  led : Led (mets L X f S (X r) c) (cnts L X f Q0 (X r) c)
  ok : Wok n Q (mets L X f S (X r) c) t
  le : ∀ i, cnts L X f Q0 (X r) (L r) i ≤ Q i
  fuel : n - S.length < f
theorem Wat.into {n f : Nat} {S : List Nat} {Q0 : Nat → Nat} {t : Ft} {v : V} (h : Wat n Q L X (f + 1) S Q0 t v) (h4 : v.k = 4) (hm : v.a.toNat ∉ S) : Wmid n Q L X f (S ++ [v.a.toNat]) (bump Q0 v.a.toNat) (t.head Q v.a.toNat) v.a.toNat 0 := by
  obtain ⟨a0, a1⟩ := isV_tab h.val h4
  have hr : v.a.toNat < n := by omega
  have h0 := (h.led _).2 hm
  refine ⟨(h.fit.add hr hm).fit.refl, led_add h.led _, h.ok.head hm, fun i => ?_, ?_⟩
  · have := h.le i
    rw [cnt_new h4 h0] at this
    exact this
  · have := h.fit.less hr hm
    have := h.fuel
    simp
    omega
theorem Wmid.at {n f : Nat} {S : List Nat} {Q0 : Nat → Nat} {t : Ft} {r c : Nat} (hg : Good n L X) (hr : r < n) (h : Wmid n Q L X f S Q0 t r c) (hc : c < L r) (l : List UInt8) : Wat n Q L X f (mets L X f S (X r) c) (cnts L X f Q0 (X r) c) (t.say l) (X r c) := by
  refine ⟨h.fit.fit, h.led, h.ok.say l, fun i => ?_, ?_, hg r hr c hc⟩
  · rw [← cnts_succ]
    exact Nat.le_trans (cnts_le _ _ _ _ _ _ hc) (h.le i)
  · have := h.fit.len
    have := h.fuel
    omega

theorem wr_ok {n : Nat} (hg : Good n L X) : ∀ (f : Nat) {S : List Nat} {Q0 : Nat → Nat} {t : Ft} {v : V}, Wat n Q L X f S Q0 t v → Wok n Q (met L X f S v) (frz Q L K X f t v) := by
  intro f
  induction f with
  | zero => intro S Q0 t v h; have := h.fuel; omega
  | succ f ih =>
    intro S Q0 t v h
    by_cases h4 : v.k = 4
    · by_cases hm : v.a.toNat ∈ S
      · rw [wr_old h4 (h.old h4 hm), met_old (Or.inr hm)]; exact h.ok.say _
      · rw [wr_new h4 (h.none hm), met_new h4 hm]
        obtain ⟨a0, a1⟩ := isV_tab h.val h4
        have hr : v.a.toNat < n := by omega
        have : ∀ c, c ≤ L v.a.toNat → Wmid n Q L X f (S ++ [v.a.toNat]) (bump Q0 v.a.toNat) (wrs Q L K X f (t.head Q v.a.toNat) v.a.toNat c) v.a.toNat c := by
          intro c
          induction c with
          | zero => intro _; exact h.into h4 hm
          | succ c ihc =>
            intro hc
            have hw := ihc (by omega)
            have ha := hw.at hg hr (by omega) (keyT (K v.a.toNat) c)
            have := ih ha
            refine ⟨?_, ?_, ?_, hw.le, hw.fuel⟩
            · rw [mets_succ]; exact hw.fit.trans (met_all hg f _ _ ha.fit ha.val ha.fuel).1
            · rw [mets_succ, cnts_succ]; exact led_cnt f _ hw.led
            · rw [mets_succ, wrs_succ]; exact this
        exact (this _ (Nat.le_refl _)).ok.say _
    · rw [wr_no h4, met_old (Or.inl h4)]; exact h.ok.say _
theorem Wmid.next {n f : Nat} {S : List Nat} {Q0 : Nat → Nat} {t : Ft} {r c : Nat} (hg : Good n L X) (hr : r < n) (h : Wmid n Q L X f S Q0 t r c) (hc : c < L r) (l : List UInt8) : Wmid n Q L X f S Q0 (frz Q L K X f (t.say l) (X r c)) r (c + 1) := by
  have ha := h.at hg hr hc l
  refine ⟨?_, ?_, ?_, h.le, h.fuel⟩
  · rw [mets_succ]; exact h.fit.trans (met_all hg f _ _ ha.fit ha.val ha.fuel).1
  · rw [mets_succ, cnts_succ]; exact led_cnt f _ h.led
  · rw [mets_succ]; exact wr_ok hg f ha

set_option maxRecDepth 20000 in
theorem len_arith {A B C T c o1 o2 kl : Nat} (h1 : o2 ≤ o1 + kl + 1502 + 400000 * (A - B)) (hl : o1 ≤ T + 23 + 3010 * c + 400000 * (B - C)) (hk : kl ≤ 1506) (g1 : C ≤ B) (g2 : B ≤ A) : o2 ≤ T + 23 + 3010 * (c + 1) + 400000 * (A - C) := by
  have e : 400000 * (A - C) = 400000 * (A - B) + 400000 * (B - C) := by rw [← Nat.mul_add, show A - B + (B - C) = A - C by omega]
  generalize 400000 * (A - C) = x at *
  generalize 400000 * (A - B) = y at *
  generalize 400000 * (B - C) = z at *
  omega
theorem wr_len {n : Nat} (hn : n ≤ 200) (hg : Good n L X) (hL : ∀ r, r < n → L r ≤ 100) (hK : ∀ r, r < n → ∀ c, c < L r → shortV (K r c)) (hX : ∀ r, r < n → ∀ c, c < L r → shortV (X r c)) :
    ∀ (f : Nat) {S : List Nat} {Q0 : Nat → Nat} {t : Ft} {v : V}, Wat n Q L X f S Q0 t v → shortV v → (frz Q L K X f t v).out.length ≤ t.out.length + 1502 + 400000 * ((met L X f S v).length - S.length) := by
  have hlab : ∀ k, k ≤ 201 → (Lib.itoa (k : Nat)).length ≤ 20 := fun k hk => itoa_len (by omega) (by omega)
  intro f
  induction f with
  | zero => intro S Q0 t v h; have := h.fuel; omega
  | succ f ih =>
    intro S Q0 t v h hs
    by_cases h4 : v.k = 4
    · by_cases hm : v.a.toNat ∈ S
      · rw [wr_old h4 (h.old h4 hm), say_len]
        have := h.ok.top v.a.toNat
        have := h.ok.few
        have := h.fit.len
        have := hlab (t.lab v.a.toNat) (by omega)
        simp only [List.length_cons]
        omega
      · rw [wr_new h4 (h.none hm), met_new h4 hm]
        obtain ⟨a0, a1⟩ := isV_tab h.val h4
        have hr : v.a.toNat < n := by omega
        have hhd : (t.head Q v.a.toNat).out.length ≤ t.out.length + 23 := by
          have := h.ok.few
          have := h.fit.len
          have := hlab (t.N + 1) (by omega)
          unfold Ft.head
          split
          · simp only [List.length_append, List.length_cons, List.length_nil]; omega
          · rw [say_len]; simp
        have : ∀ c, c ≤ L v.a.toNat → Wmid n Q L X f (S ++ [v.a.toNat]) (bump Q0 v.a.toNat) (wrs Q L K X f (t.head Q v.a.toNat) v.a.toNat c) v.a.toNat c ∧
            (wrs Q L K X f (t.head Q v.a.toNat) v.a.toNat c).out.length ≤ t.out.length + 23 + 3010 * c + 400000 * ((mets L X f (S ++ [v.a.toNat]) (X v.a.toNat) c).length - (S ++ [v.a.toNat]).length) := by
          intro c
          induction c with
          | zero => intro _; exact ⟨h.into h4 hm, by rw [wrs_zero, mets_zero]; omega⟩
          | succ c ihc =>
            intro hc
            obtain ⟨hw, hlen⟩ := ihc (by omega)
            have ha := hw.at hg hr (by omega) (keyT (K v.a.toNat) c)
            have h1 := ih ha (hX _ hr c (by omega))
            have g1 := hw.fit.len
            have g2 := (met_all hg f _ _ ha.fit ha.val ha.fuel).1.len
            have hk : (keyT (K v.a.toNat) c).length ≤ 1506 := by
              have := plT_len (hK _ hr c (by omega))
              unfold keyT
              split <;> simp only [List.length_append, List.length_cons, List.length_nil] <;> omega
            refine ⟨hw.next hg hr (by omega) _ |> (fun x => by rw [wrs_succ]; exact x), ?_⟩
            rw [wrs_succ, mets_succ]
            rw [say_len] at h1
            exact len_arith h1 hlen hk g1 g2
        obtain ⟨hw, hlen⟩ := this _ (Nat.le_refl _)
        have g1 := hw.fit.len
        have h100 := hL _ hr
        rw [say_len]
        simp only [List.length_append, List.length_cons, List.length_nil] at g1 hlen ⊢
        omega
    · rw [wr_no h4, say_len, met_old (Or.inl h4)]
      have := plT_len hs
      omega
end

def cntAll (n : Nat) (u : V) (L : Nat → Nat) (X : Nat → Nat → V) : Nat → Nat := cnt L X (n + 1) (fun _ => 0) u
def ft0 : Ft := ⟨0, fun _ => 0, []⟩
def wrAll (n : Nat) (u : V) (L : Nat → Nat) (K X : Nat → Nat → V) : Ft := frz (cntAll n u L X) L K X (n + 1) ft0 u
theorem wat0 {n : Nat} {u : V} {L : Nat → Nat} {X : Nat → Nat → V} (hu : isV n u = true) : Wat n (cntAll n u L X) L X (n + 1) [] (fun _ => 0) ft0 u :=
  ⟨Fit.nil n, led_nil, ⟨fun i => by simp [ft0], fun i => by simp [ft0], by simp [ft0]⟩, fun i => Nat.le_refl _, by simp, hu⟩

structure Cat (n : Nat) (L : Nat → Nat) (X : Nat → Nat → V) (f : Nat) (S : List Nat) (Q : Nat → Nat) (v : V) : Prop where
  fit : Fit n S
  led : Led S Q
  le : ∀ i, cnt L X f Q v i ≤ 100000
  fuel : n - S.length < f
  val : isV n v = true
structure Cmid (n : Nat) (L : Nat → Nat) (X : Nat → Nat → V) (f : Nat) (S : List Nat) (Q : Nat → Nat) (r c : Nat) : Prop where
  fit : Grows n S (mets L X f S (X r) c)
  led : Led (mets L X f S (X r) c) (cnts L X f Q (X r) c)
  le : ∀ i, cnts L X f Q (X r) (L r) i ≤ 100000
  fuel : n - S.length < f
section
variable {L : Nat → Nat} {X : Nat → Nat → V}
theorem Cat.into {n f : Nat} {S : List Nat} {Q : Nat → Nat} {v : V} (h : Cat n L X (f + 1) S Q v) (h4 : v.k = 4) (hm : v.a.toNat ∉ S) : Cmid n L X f (S ++ [v.a.toNat]) (bump Q v.a.toNat) v.a.toNat 0 := by
  obtain ⟨a0, a1⟩ := isV_tab h.val h4
  have hr : v.a.toNat < n := by omega
  have h0 := (h.led _).2 hm
  refine ⟨(h.fit.add hr hm).fit.refl, led_add h.led _, fun i => ?_, ?_⟩
  · have := h.le i
    rw [cnt_new h4 h0] at this
    exact this
  · have := h.fit.less hr hm
    have := h.fuel
    simp
    omega
theorem Cmid.at {n f : Nat} {S : List Nat} {Q : Nat → Nat} {r c : Nat} (hg : Good n L X) (hr : r < n) (h : Cmid n L X f S Q r c) (hc : c < L r) : Cat n L X f (mets L X f S (X r) c) (cnts L X f Q (X r) c) (X r c) := by
  refine ⟨h.fit.fit, h.led, fun i => ?_, ?_, hg r hr c hc⟩
  · rw [← cnts_succ]
    exact Nat.le_trans (cnts_le _ _ _ _ _ _ hc) (h.le i)
  · have := h.fit.len
    have := h.fuel
    omega
theorem Cmid.next {n f : Nat} {S : List Nat} {Q : Nat → Nat} {r c : Nat} (hg : Good n L X) (hr : r < n) (h : Cmid n L X f S Q r c) (hc : c < L r) : Cmid n L X f S Q r (c + 1) := by
  have ha := h.at hg hr hc
  refine ⟨?_, ?_, h.le, h.fuel⟩
  · rw [mets_succ]; exact h.fit.trans (met_all hg f _ _ ha.fit ha.val ha.fuel).1
  · rw [mets_succ, cnts_succ]; exact led_cnt f _ h.led
theorem Cat.old {n f : Nat} {S : List Nat} {Q : Nat → Nat} {v : V} (h : Cat n L X (f + 1) S Q v) (h4 : v.k = 4) : Q v.a.toNat + 1 ≤ 100000 := by
  have hb : bump Q v.a.toNat v.a.toNat ≤ cnt L X (f + 1) Q v v.a.toNat := by
    by_cases h0 : Q v.a.toNat = 0
    · rw [cnt_new h4 h0]; exact cnts_le L X f (bump Q v.a.toNat) (X v.a.toNat) _ (Nat.zero_le _)
    · rw [cnt_old h4 h0]; exact Nat.le_refl _
  have := h.le v.a.toNat
  simp [bump] at hb
  omega

theorem cnt_bound {n : Nat} (hg : Good n L X) (hL : ∀ r, r < n → L r ≤ 100) : ∀ (f : Nat) {S : List Nat} {Q : Nat → Nat} {v : V}, Fit n S → Led S Q → isV n v = true → n - S.length < f → ∀ i, cnt L X f Q v i ≤ Q i + 1 + 100 * ((met L X f S v).length - S.length) := by
  intro f
  induction f with
  | zero => intro S Q v _ _ _ h; omega
  | succ f ih =>
    intro S Q v hS hQ hv hf i
    by_cases h4 : v.k = 4
    · by_cases hm : v.a.toNat ∈ S
      · rw [cnt_old h4 (fun e => ((hQ _).1 e) hm)]
        unfold bump
        split
        · rename_i e; subst e; omega
        · omega
      · obtain ⟨a0, a1⟩ := isV_tab hv h4
        have hr : v.a.toNat < n := by omega
        rw [cnt_new h4 ((hQ _).2 hm), met_new h4 hm]
        have h1 := hS.add hr hm
        have hl := hS.less hr hm
        have : ∀ c, c ≤ L v.a.toNat → Grows n (S ++ [v.a.toNat]) (mets L X f (S ++ [v.a.toNat]) (X v.a.toNat) c) ∧ cnts L X f (bump Q v.a.toNat) (X v.a.toNat) c i ≤ Q i + 1 + c + 100 * ((mets L X f (S ++ [v.a.toNat]) (X v.a.toNat) c).length - (S ++ [v.a.toNat]).length) := by
          intro c
          induction c with
          | zero =>
            intro _
            refine ⟨h1.fit.refl, ?_⟩
            rw [cnts_zero]
            unfold bump
            split
            · rename_i e; subst e; omega
            · omega
          | succ c ihc =>
            intro hc
            obtain ⟨g, hb⟩ := ihc (by omega)
            have hgl := g.len
            have hlen : (S ++ [v.a.toNat]).length = S.length + 1 := by simp
            have hfu : n - (mets L X f (S ++ [v.a.toNat]) (X v.a.toNat) c).length < f := by omega
            have g2 := (met_all hg f _ (X v.a.toNat c) g.fit (hg _ hr c (by omega)) hfu).1
            have := ih g.fit (led_cnts f (X v.a.toNat) (led_add hQ v.a.toNat) c) (hg _ hr c (by omega)) hfu i
            have g2l := g2.len
            refine ⟨by rw [mets_succ]; exact g.trans g2, ?_⟩
            rw [cnts_succ, mets_succ]
            omega
        obtain ⟨g, hb⟩ := this _ (Nat.le_refl _)
        have hgl := g.len
        have h100 := hL _ hr
        simp only [List.length_append, List.length_cons, List.length_nil] at hgl hb ⊢
        omega
    · rw [cnt_no h4]; omega
theorem cat0 {n : Nat} {u : V} (hn : n ≤ 200) (hg : Good n L X) (hL : ∀ r, r < n → L r ≤ 100) (hu : isV n u = true) : Cat n L X (n + 1) [] (fun _ => 0) u :=
  ⟨Fit.nil n, led_nil, fun i => by
    have h := cnt_bound hg hL (n + 1) (Fit.nil n) led_nil hu (by simp) i
    have := (met_all hg (n + 1) [] u (Fit.nil n) hu (by simp)).1.fit.len
    simp only [List.length_nil, Nat.sub_zero] at h
    omega, by simp, hu⟩
end

end Go.Proofs.YtgflalfiopnmnaaGreatDoor
