import Derived.Test.YtgflalfiopnmnaaGreatDoorM0
import Derived.Test.YtgflalfiopnmnaaGreatDoorM11
import Derived.Test.YtgflalfiopnmnaaGreatDoorM5
namespace Go.Proofs.YtgflalfiopnmnaaGreatDoor
open Vl

def relV (R : Nat → Nat → Prop) (x y : V) : Prop := x.k = y.k ∧ (x.k = 4 → R x.a.toNat y.a.toNat) ∧ (x.k ≠ 4 → x = y)

structure Gr where
  n : Nat
  u : V
  L : Nat → Nat
  K : Nat → Nat → V
  X : Nat → Nat → V
def Gr.Ok (g : Gr) : Prop := OkG g.n g.u g.L g.K g.X
def Gr.val (g : Gr) (i : Nat) (k : V) : V := atKey (g.L i) (g.K i) (g.X i) k
def KB (g h : Gr) (R : Nat → Nat → Prop) : Prop := ∀ i j, R i j → i < g.n ∧ j < h.n ∧ ∀ k, relV R (g.val i k) (h.val j k)
def SameG (g h : Gr) : Prop := ∃ R, KB g h R ∧ relV R g.u h.u

section
variable {R S : Nat → Nat → Prop} {x y z : V} {g h i : Gr}
theorem relV.mono (hv : relV R x y) (hm : ∀ a b, R a b → S a b) : relV S x y := ⟨hv.1, fun e => hm _ _ (hv.2.1 e), hv.2.2⟩
theorem relV.symm (hv : relV R x y) : relV (fun a b => R b a) y x := ⟨hv.1.symm, fun e => hv.2.1 (hv.1.trans e), fun e => (hv.2.2 (fun e' => e (hv.1.symm.trans e'))).symm⟩
theorem relV.comp (hv : relV R x y) (hw : relV S y z) : relV (fun a c => ∃ b, R a b ∧ S b c) x z :=
  ⟨hv.1.trans hw.1, fun e => ⟨_, hv.2.1 e, hw.2.1 (hv.1.symm.trans e)⟩, fun e => (hv.2.2 e).trans (hw.2.2 (fun e' => e (hv.1.trans e')))⟩
theorem KB.symm (hk : KB g h R) : KB h g (fun a b => R b a) := fun a b hab => by
  obtain ⟨h1, h2, h3⟩ := hk b a hab
  exact ⟨h2, h1, fun k => (h3 k).symm⟩
theorem KB.comp (hk : KB g h R) (hk' : KB h i S) : KB g i (fun a c => ∃ b, R a b ∧ S b c) := by
  rintro a c ⟨b, h1, h2⟩
  obtain ⟨p1, p2, p3⟩ := hk a b h1
  obtain ⟨q1, q2, q3⟩ := hk' b c h2
  exact ⟨p1, q2, fun k => (p3 k).comp (q3 k)⟩
theorem SameG.symm (hs : SameG g h) : SameG h g := by
  obtain ⟨R, h1, h2⟩ := hs
  exact ⟨_, h1.symm, h2.symm⟩
theorem SameG.trans (hs : SameG g h) (hs' : SameG h i) : SameG g i := by
  obtain ⟨R, h1, h2⟩ := hs
  obtain ⟨S, h3, h4⟩ := hs'
  exact ⟨_, h1.comp h3, h2.comp h4⟩
end

section
variable {n m l l' : Nat} {k x k' x' : Nat → V} {ls ls' : List Nat} {R : Nat → Nat → Prop}
theorem pos_of_keys (h : OkT n l k x) (h' : OkT m l' k' x') (hs : SortI k l ls) (hs' : SortI k' l' ls') (hk : ∀ z, relV R (atKey l k x z) (atKey l' k' x' z)) : l = l' ∧ ∀ c, c < l → byI k ls c = byI k' ls' c ∧ relV R (byI x ls c) (byI x' ls' c) := by
  have hno : ∀ z ∈ Aw.kidsOf (keys k l ++ keys k' l'), ¬ (¬ ((atKey l k x z).k = 4 ∧ (atKey l' k' x' z).k = 4) ∧ atKey l k x z ≠ atKey l' k' x' z) := fun z _ hp => by
    obtain ⟨a, b, c⟩ := hk z
    by_cases h4 : (atKey l k x z).k = 4
    · exact hp.1 ⟨h4, a.symm.trans h4⟩
    · exact hp.2 (c h4)
  obtain ⟨hl, hkeys⟩ := Aw.keys_one h h' hs hs' hno
  refine ⟨hl, fun c hc => ⟨hkeys c hc, ?_⟩⟩
  have e := hkeys c hc
  have hz := hk (byI k ls c)
  have r1 : atKey l k x (byI k ls c) = byI x ls c := Aw.atKey_at h (hs.lt hc)
  have r2 : atKey l' k' x' (byI k ls c) = byI x' ls' c := by rw [e]; exact Aw.atKey_at h' (hs'.lt (by omega))
  rw [r1, r2] at hz
  exact hz

theorem keys_of_pos (h : OkT n l k x) (h' : OkT m l' k' x') (hs : SortI k l ls) (hs' : SortI k' l' ls') (hl : l = l') (hp : ∀ c, c < l → byI k ls c = byI k' ls' c ∧ relV R (byI x ls c) (byI x' ls' c)) (z : V) : relV R (atKey l k x z) (atKey l' k' x' z) := by
  by_cases hz : z ∈ keys k l
  · obtain ⟨c, hc, rfl⟩ := Aw.mem_keys.1 hz
    obtain ⟨q, hq, e⟩ := Aw.perm_at hs hc
    obtain ⟨e1, e2⟩ := hp q hq
    unfold byI at e1 e2
    rw [e] at e1 e2
    rw [Aw.atKey_at h hc, e1, Aw.atKey_at h' (hs'.lt (by omega))]
    exact e2
  · have hz' : z ∉ keys k' l' := fun hm => by
      obtain ⟨c, hc, rfl⟩ := Aw.mem_keys.1 hm
      obtain ⟨q, hq, e⟩ := Aw.perm_at hs' hc
      have e1 := (hp q (by omega)).1
      unfold byI at e1
      rw [e] at e1
      exact hz (Aw.mem_keys.2 ⟨_, hs.lt (by omega), e1⟩)
    rw [Aw.atKey_no hz, Aw.atKey_no hz']
    exact ⟨rfl, fun e => by simp [zeroV] at e, fun _ => rfl⟩
end

theorem bis_of_kb {g : Gr} {ls : Nat → List Nat} {R : Nat → Nat → Prop} (hg : g.Ok) (hs : ∀ r, r < g.n → SortI (g.K r) (g.L r) (ls r)) (hk : KB g g R) : Bis g.n g.L (sK g.K ls) (sK g.X ls) R := fun i j hij => by
  obtain ⟨h1, h2, h3⟩ := hk i j hij
  obtain ⟨hl, hp⟩ := pos_of_keys (hg.all i h1) (hg.all j h2) (hs i h1) (hs j h2) h3
  exact ⟨h1, h2, hl, fun c hc => ⟨(hp c hc).1, (hp c hc).2⟩⟩

section
variable {g h : Gr} {f : Nat → Nat}
theorem relV_alike {x y : V} (hx : isV g.n x = true) (hy : isV h.n y = true) (ha : alike f x (sh g.n y) = true) : relV (fun i j => i < g.n ∧ j < h.n ∧ f i = f (g.n + j)) x y := by
  obtain ⟨a, b, c⟩ := alike_iff.1 ha
  rw [sh_k] at a
  refine ⟨a, fun h4 => ?_, fun h4 => ?_⟩
  · have h4' := a.symm.trans h4
    obtain ⟨a0, a1⟩ := isV_tab hx h4
    obtain ⟨b0, b1⟩ := isV_tab hy h4'
    have e := b h4
    unfold sh at e
    rw [if_pos h4'] at e
    refine ⟨by omega, by omega, e.trans ?_⟩
    congr 1
    simp only
    omega
  · have e := c h4
    unfold sh at e
    rw [if_neg (fun e' => h4 (a.trans e'))] at e
    exact e

theorem same_of_alike (hg : g.Ok) (hh : h.Ok) (hc : ClsAre (g.n + h.n) (jn g.n g.L h.L) (jn g.n g.K h.K) (jn g.n g.X (fun j c => sh g.n (h.X j c))) f) (ha : alike f g.u (sh g.n h.u) = true) : SameG g h := by
  refine ⟨fun i j => i < g.n ∧ j < h.n ∧ f i = f (g.n + j), ?_, relV_alike hg.root hh.root ha⟩
  obtain ⟨ls, hs, hcls⟩ := hc
  rintro i j ⟨hi, hj, e⟩
  refine ⟨hi, hj, ?_⟩
  have hl := hcls.bis i (g.n + j) (by omega) (by omega) e
  have s1 := hs i (by omega)
  have s2 := hs (g.n + j) (by omega)
  have hlen := hl.len
  have hall := hl.all
  unfold sK at hall
  rw [jn_lt hi, jn_lt hi] at s1
  rw [jn_add, jn_add] at s2
  rw [jn_lt hi, jn_add] at hlen
  rw [jn_lt hi, jn_lt hi, jn_lt hi, jn_add, jn_add] at hall
  exact keys_of_pos (hg.all i hi) (hh.all j hj) s1 s2 hlen (fun c hc => ⟨(hall c hc).1, relV_alike ((hg.all i hi).all _ (s1.lt hc)).val ((hh.all j hj).all _ (s2.lt (by omega))).val (hall c hc).2⟩)

theorem alike_of_same (hg : g.Ok) (hh : h.Ok) (hc : ClsAre (g.n + h.n) (jn g.n g.L h.L) (jn g.n g.K h.K) (jn g.n g.X (fun j c => sh g.n (h.X j c))) f) (hs' : SameG g h) : alike f g.u (sh g.n h.u) = true := by
  obtain ⟨R, hk, hu⟩ := hs'
  obtain ⟨ls, hs, hcls⟩ := hc
  have up : ∀ {x y : V}, isV h.n y = true → relV R x y → x.k = (sh g.n y).k ∧ (x.k = 4 → ∃ j, (sh g.n y).a.toNat = g.n + j ∧ R x.a.toNat j) ∧ (x.k ≠ 4 → x = sh g.n y) := fun {x y} hy hr => by
    refine ⟨by rw [sh_k]; exact hr.1, fun h4 => ?_, fun h4 => ?_⟩
    · have h4' := hr.1.symm.trans h4
      obtain ⟨b0, b1⟩ := isV_tab hy h4'
      refine ⟨y.a.toNat, ?_, hr.2.1 h4⟩
      unfold sh
      rw [if_pos h4']
      simp only
      omega
    · unfold sh
      rw [if_neg (fun e' => h4 (hr.1.trans e'))]
      exact hr.2.2 h4
  have hbis : Bis (g.n + h.n) (jn g.n g.L h.L) (sK (jn g.n g.K h.K) ls) (sK (jn g.n g.X (fun j c => sh g.n (h.X j c))) ls) (fun i j => ∃ j', j = g.n + j' ∧ R i j') := by
    rintro i _ ⟨j, rfl, hij⟩
    obtain ⟨hi, hj, hv⟩ := hk i j hij
    have s1 := hs i (by omega)
    have s2 := hs (g.n + j) (by omega)
    rw [jn_lt hi, jn_lt hi] at s1
    rw [jn_add, jn_add] at s2
    obtain ⟨hl, hp⟩ := pos_of_keys (hg.all i hi) (hh.all j hj) s1 s2 hv
    refine ⟨by omega, by omega, by rw [jn_lt hi, jn_add]; exact hl, fun c hc => ?_⟩
    rw [jn_lt hi] at hc
    obtain ⟨p1, p2⟩ := hp c hc
    unfold sK
    rw [jn_lt hi, jn_lt hi, jn_add, jn_add]
    exact ⟨p1, up ((hh.all j hj).all _ (s2.lt (by omega))).val p2⟩
  obtain ⟨a, b, c⟩ := up hh.root hu
  refine alike_iff.2 ⟨a, fun h4 => ?_, c⟩
  obtain ⟨j, e, hr⟩ := b h4
  rw [e]
  exact hcls.wide _ hbis _ _ ⟨j, rfl, hr⟩
end

inductive Along (R : Nat → Nat → Prop) : List Nat → List Nat → Prop
  | nil : Along R [] []
  | add {S T : List Nat} {a b : Nat} : Along R S T → R a b → Along R (S ++ [a]) (T ++ [b])

section
variable {R : Nat → Nat → Prop} {S T : List Nat}
theorem Along.left (h : Along R S T) : ∀ a ∈ S, ∃ b ∈ T, R a b := by
  induction h with
  | nil => intro a ha; cases ha
  | add h1 h2 ih =>
    intro a ha
    rcases List.mem_append.1 ha with ha | ha
    · obtain ⟨b, hb, hr⟩ := ih a ha
      exact ⟨b, List.mem_append.2 (Or.inl hb), hr⟩
    · obtain rfl := List.mem_singleton.1 ha
      exact ⟨_, List.mem_append.2 (Or.inr (List.mem_singleton.2 rfl)), h2⟩
theorem Along.right (h : Along R S T) : ∀ b ∈ T, ∃ a ∈ S, R a b := by
  induction h with
  | nil => intro a ha; cases ha
  | add h1 h2 ih =>
    intro a ha
    rcases List.mem_append.1 ha with ha | ha
    · obtain ⟨b, hb, hr⟩ := ih a ha
      exact ⟨b, List.mem_append.2 (Or.inl hb), hr⟩
    · obtain rfl := List.mem_singleton.1 ha
      exact ⟨_, List.mem_append.2 (Or.inr (List.mem_singleton.2 rfl)), h2⟩
theorem Along.len (h : Along R S T) : S.length = T.length := by
  induction h with
  | nil => rfl
  | add h1 h2 ih => simp [ih]
theorem Along.place (h : Along R S T) : ∀ (i a b : Nat), S[i]? = some a → T[i]? = some b → R a b := by
  induction h with
  | nil => intro i a b h; simp at h
  | @add S T a' b' h1 h2 ih =>
    intro i a b ha hb
    have hl := h1.len
    by_cases hi : i < S.length
    · rw [List.getElem?_append_left hi] at ha
      rw [List.getElem?_append_left (by omega)] at hb
      exact ih i a b ha hb
    · rw [List.getElem?_append_right (by omega)] at ha
      rw [List.getElem?_append_right (by omega)] at hb
      by_cases hz : i = S.length
      · subst hz
        rw [hl] at hb
        simp at ha hb
        rw [← ha, ← hb]
        exact h2
      · obtain ⟨d, hd⟩ : ∃ d, i - S.length = d + 1 := ⟨i - S.length - 1, by omega⟩
        rw [hd] at ha
        simp at ha
end

theorem met_sim {LA LB : Nat → Nat} {XA XB : Nat → Nat → V} {R : Nat → Nat → Prop} (h1 : ∀ i j j', R i j → R i j' → j = j') (h2 : ∀ i i' j, R i j → R i' j → i = i') (hp : ∀ i j, R i j → LA i = LB j ∧ ∀ c, c < LA i → relV R (XA i c) (XB j c)) :
    ∀ (f : Nat) (S T : List Nat) (v v' : V), Along R S T → relV R v v' → Along R (met LA XA f S v) (met LB XB f T v') := by
  intro f
  induction f with
  | zero => intro S T v v' h _; exact h
  | succ f ih =>
    intro S T v v' h hv
    by_cases hc : v.k = 4 ∧ v.a.toNat ∉ S
    · obtain ⟨h4, hn⟩ := hc
      have h4' : v'.k = 4 := hv.1.symm.trans h4
      have hr := hv.2.1 h4
      have hn' : v'.a.toNat ∉ T := fun hm => by
        obtain ⟨a, ha, e⟩ := h.right _ hm
        exact hn (h2 _ _ _ e hr ▸ ha)
      rw [met_new h4 hn, met_new h4' hn']
      obtain ⟨hl, hx⟩ := hp _ _ hr
      rw [← hl]
      have loop : ∀ c, c ≤ LA v.a.toNat → Along R (mets LA XA f (S ++ [v.a.toNat]) (XA v.a.toNat) c) (mets LB XB f (T ++ [v'.a.toNat]) (XB v'.a.toNat) c) := by
        intro c
        induction c with
        | zero => intro _; exact h.add hr
        | succ c ihc =>
          intro hc
          rw [mets_succ, mets_succ]
          exact ih _ _ _ _ (ihc (by omega)) (hx c (by omega))
      exact loop _ (Nat.le_refl _)
    · have o : v.k ≠ 4 ∨ v.a.toNat ∈ S := by
        by_cases h4 : v.k = 4
        · exact Or.inr (Classical.byContradiction fun hn => hc ⟨h4, hn⟩)
        · exact Or.inl h4
      have o' : v'.k ≠ 4 ∨ v'.a.toNat ∈ T := by
        by_cases h4 : v.k = 4
        · rcases o with o | o
          · exact absurd h4 o
          · obtain ⟨b, hb, e⟩ := h.left _ o
            exact Or.inr (h1 _ _ _ e (hv.2.1 h4) ▸ hb)
        · exact Or.inl (fun e => h4 (hv.1.trans e))
      rw [met_old o, met_old o']
      exact h

theorem met_fuel {n : Nat} {L : Nat → Nat} {X : Nat → Nat → V} (hg : Good n L X) : ∀ (f : Nat) (S : List Nat) (v : V), Fit n S → isV n v = true → n - S.length < f → met L X (f + 1) S v = met L X f S v := by
  intro f
  induction f with
  | zero => intro S v _ _ h; omega
  | succ f ih =>
    intro S v hS hv hf
    by_cases h : v.k = 4 ∧ v.a.toNat ∉ S
    · obtain ⟨h4, hn⟩ := h
      rw [met_new h4 hn, met_new h4 hn]
      obtain ⟨a0, a1⟩ := isV_tab hv h4
      have hr : v.a.toNat < n := by omega
      generalize v.a.toNat = r at *
      have hl := hS.less hr hn
      have h1 := hS.add hr hn
      have loop : ∀ c, c ≤ L r → Grows n (S ++ [r]) (mets L X f (S ++ [r]) (X r) c) ∧ mets L X (f + 1) (S ++ [r]) (X r) c = mets L X f (S ++ [r]) (X r) c := by
        intro c
        induction c with
        | zero => intro _; exact ⟨h1.fit.refl, rfl⟩
        | succ c ihc =>
          intro hc
          obtain ⟨g1, g2⟩ := ihc (by omega)
          rw [mets_succ, mets_succ, g2]
          have hlen := g1.len
          simp only [List.length_append, List.length_cons, List.length_nil] at hlen
          have hlt : n - (mets L X f (S ++ [r]) (X r) c).length < f := by omega
          exact ⟨g1.trans (met_all hg f _ _ g1.fit (hg r hr c (by omega)) hlt).1, ih _ _ g1.fit (hg r hr c (by omega)) hlt⟩
      exact (loop _ (Nat.le_refl _)).2
    · have o : v.k ≠ 4 ∨ v.a.toNat ∈ S := by
        by_cases h4 : v.k = 4
        · exact Or.inr (Classical.byContradiction fun hn => h ⟨h4, hn⟩)
        · exact Or.inl h4
      rw [met_old o, met_old o]

theorem met_fuels {n : Nat} {L : Nat → Nat} {X : Nat → Nat → V} (hg : Good n L X) {v : V} (hv : isV n v = true) (d : Nat) : met L X (n + 1 + d) [] v = met L X (n + 1) [] v := by
  induction d with
  | zero => rfl
  | succ d ih => rw [← ih]; exact met_fuel hg (n + 1 + d) [] v (Fit.nil n) hv (by simp; omega)

structure Shk (s : Gr) : Prop where
  ok : s.Ok
  sort : ∀ r, r < s.n → SortI (s.K r) (s.L r) (List.range (s.L r))
  met : order s.n s.u s.L s.X = List.range s.n
  min : ∀ R, KB s s R → ∀ i j, R i j → i = j

theorem byI_range {k : Nat → V} {l c : Nat} (hc : c < l) : byI k (List.range l) c = k c := by
  unfold byI
  rw [List.getD_eq_getElem?_getD, List.getElem?_range hc]
  rfl

theorem shk_one {s t : Gr} (hs : Shk s) (ht : Shk t) (h : SameG s t) : s.n = t.n ∧ s.u = t.u ∧ ∀ i, i < s.n → s.L i = t.L i ∧ ∀ c, c < s.L i → s.K i c = t.K i c ∧ s.X i c = t.X i c := by
  obtain ⟨R, hk, hu⟩ := h
  have h1 : ∀ i j j', R i j → R i j' → j = j' := fun i j j' a b => ht.min _ (hk.symm.comp hk) j j' ⟨i, a, b⟩
  have h2 : ∀ i i' j, R i j → R i' j → i = i' := fun i i' j a b => hs.min _ (hk.comp hk.symm) i i' ⟨j, a, b⟩
  have hp : ∀ i j, R i j → s.L i = t.L j ∧ ∀ c, c < s.L i → s.K i c = t.K j c ∧ relV R (s.X i c) (t.X j c) := fun i j hij => by
    obtain ⟨hi, hj, hv⟩ := hk i j hij
    obtain ⟨hl, hc⟩ := pos_of_keys (hs.ok.all i hi) (ht.ok.all j hj) (hs.sort i hi) (ht.sort j hj) hv
    refine ⟨hl, fun c hc' => ?_⟩
    have := hc c hc'
    rw [byI_range hc', byI_range hc', byI_range (by omega), byI_range (by omega)] at this
    exact this
  have sim := met_sim h1 h2 (fun i j hij => ⟨(hp i j hij).1, fun c hc => ((hp i j hij).2 c hc).2⟩) (s.n + t.n + 1) [] [] s.u t.u Along.nil hu
  have e1 : met s.L s.X (s.n + t.n + 1) [] s.u = List.range s.n := by
    rw [← hs.met, show s.n + t.n + 1 = s.n + 1 + t.n by omega]
    exact met_fuels (good_of hs.ok) hs.ok.root _
  have e2 : met t.L t.X (s.n + t.n + 1) [] t.u = List.range t.n := by
    rw [← ht.met, show s.n + t.n + 1 = t.n + 1 + s.n by omega]
    exact met_fuels (good_of ht.ok) ht.ok.root _
  rw [e1, e2] at sim
  have hn : s.n = t.n := by simpa using sim.len
  have hid : ∀ i, i < s.n → R i i := fun i hi => sim.place i i i (List.getElem?_range hi) (List.getElem?_range (by omega))
  have eqv : ∀ {x y : V}, isV s.n x = true → isV t.n y = true → relV R x y → x = y := fun {x y} hx hy hr => by
    by_cases h4 : x.k = 4
    · obtain ⟨a0, a1⟩ := isV_tab hx h4
      have := h1 _ _ _ (hr.2.1 h4) (hid x.a.toNat (by omega))
      exact Aw.tab_one hx (hn ▸ hy) h4 (hr.1.symm.trans h4) this.symm
    · exact hr.2.2 h4
  refine ⟨hn, eqv hs.ok.root ht.ok.root hu, fun i hi => ?_⟩
  obtain ⟨hl, hc⟩ := hp i i (hid i hi)
  refine ⟨hl, fun c hcl => ⟨(hc c hcl).1, eqv ((hs.ok.all i hi).all c hcl).val ((ht.ok.all i (by omega)).all c (by omega)).val (hc c hcl).2⟩⟩

section
variable {n : Nat} {u : V} {L : Nat → Nat} {K X : Nat → Nat → V}
theorem renum_k (S : List Nat) (v : V) : (renum S v).k = v.k := by unfold renum; split <;> rfl
theorem renum_isV {S : List Nat} {v : V} (hv : isV n v = true) (hm : v.k = 4 → v.a.toNat ∈ S) : isV S.length (renum S v) = true := by
  unfold renum
  split
  · rename_i h4
    have hl := List.idxOf_lt_length_of_mem (hm h4)
    unfold isV at hv ⊢
    rw [if_neg (by omega), if_neg (by omega), if_neg (by omega), if_neg (by omega), if_pos h4] at hv
    show (if v.k = 0 then _ else if v.k = 1 then _ else if v.k = 2 then _ else if v.k = 3 then _ else if v.k = 4 then _ else false) = true
    rw [if_neg (by omega), if_neg (by omega), if_neg (by omega), if_neg (by omega), if_pos h4]
    simp only [Bool.and_eq_true, beq_iff_eq, decide_eq_true_eq] at hv ⊢
    exact ⟨hv.1, hv.2.1, by omega, by omega⟩
  · rename_i h4
    unfold isV at hv ⊢
    simp only [h4, if_false] at hv ⊢
    exact hv

theorem ord_at {S : List Nat} {j : Nat} (hj : j < S.length) : S[j]? = some (S.getD j 0) := by
  rw [List.getD_eq_getElem?_getD, List.getElem?_eq_getElem hj]
  rfl
theorem ord_mem {S : List Nat} {j : Nat} (hj : j < S.length) : S.getD j 0 ∈ S := List.mem_of_getElem? (ord_at hj)
theorem ord_inj {S : List Nat} (h : S.Nodup) {i j a : Nat} (hi : S[i]? = some a) (hj : S[j]? = some a) : i = j := by
  obtain ⟨l1, e1⟩ := List.getElem?_eq_some_iff.1 hi
  obtain ⟨l2, e2⟩ := List.getElem?_eq_some_iff.1 hj
  have hp := List.pairwise_iff_getElem.1 h
  rcases Nat.lt_trichotomy i j with hl | he | hl
  · exact absurd (e1.trans e2.symm) (hp i j l1 l2 hl)
  · exact he
  · exact absurd (e2.trans e1.symm) (hp j i l2 l1 hl)
theorem ord_idx {S : List Nat} {a : Nat} (h : a ∈ S) : S[S.idxOf a]? = some a := by
  rw [List.getElem?_eq_getElem (List.idxOf_lt_length_of_mem h), List.getElem_idxOf]

theorem okG_canon (h : OkG n u L K X) : OkG (order n u L X).length (renum (order n u L X) u) (cL (order n u L X) L) (cK (order n u L X) K) (cX (order n u L X) X) := by
  obtain ⟨h1, h2, h3⟩ := order_all h
  refine ⟨Nat.le_trans h1.len h.len, renum_isV h.root h3, fun r hr => ?_⟩
  have hm := ord_mem hr
  have ht := h.all _ (h1.lt _ hm)
  refine ⟨ht.len, fun c hc => ⟨(ht.all c hc).key, renum_isV (ht.all c hc).val (h2 _ hm c hc), ?_, (ht.all c hc).once⟩⟩
  show (renum _ _).k ≠ 0
  rw [renum_k]
  exact (ht.all c hc).some

theorem order_canon (h : OkG n u L K X) : order (order n u L X).length (renum (order n u L X) u) (cL (order n u L X) L) (cX (order n u L X) X) = List.range (order n u L X).length := by
  have hok := okG_canon h
  obtain ⟨h1, h2, h3⟩ := order_all h
  have hlen := h1.len
  obtain ⟨S, hS⟩ : ∃ S, order n u L X = S := ⟨_, rfl⟩
  rw [hS] at h1 h2 h3 hok hlen ⊢
  have rel : ∀ {v : V}, (v.k = 4 → v.a.toNat ∈ S) → relV (fun i j => S[j]? = some i) v (renum S v) := fun {v} hm => by
    refine ⟨(renum_k S v).symm, fun h4 => ?_, fun h4 => ?_⟩
    · unfold renum
      rw [if_pos h4]
      show S[((S.idxOf v.a.toNat : Nat) : Int).toNat]? = _
      rw [Int.toNat_natCast]
      exact ord_idx (hm h4)
    · unfold renum
      rw [if_neg h4]
  have sim := met_sim (LA := L) (XA := X) (LB := cL S L) (XB := cX S X) (R := fun i j => S[j]? = some i) (fun i j j' a b => ord_inj h1.nd a b) (fun i i' j a b => Option.some.inj (a.symm.trans b)) (fun i j hij => by
    have e : S.getD j 0 = i := by rw [List.getD_eq_getElem?_getD, hij]; rfl
    refine ⟨by unfold cL; rw [e], fun c hc => ?_⟩
    unfold cX
    rw [e]
    exact rel (h2 i (List.mem_of_getElem? hij) c hc)) (n + 1) [] [] u (renum S u) Along.nil (rel h3)
  have hS' : met L X (n + 1) [] u = S := hS
  rw [hS'] at sim
  have e : order S.length (renum S u) (cL S L) (cX S X) = met (cL S L) (cX S X) (n + 1) [] (renum S u) := by
    unfold order
    rw [show n + 1 = S.length + 1 + (n - S.length) by omega]
    exact (met_fuels (good_of hok) hok.root _).symm
  rw [e]
  refine List.ext_getElem? fun i => ?_
  by_cases hi : i < S.length
  · rw [List.getElem?_range hi]
    have hl := sim.len
    rw [List.getElem?_eq_getElem (by omega)]
    have := sim.place i _ _ (ord_at hi) (List.getElem?_eq_getElem (show i < _ by omega))
    rw [ord_inj h1.nd this (ord_at hi)]
  · have hl := sim.len
    rw [List.getElem?_eq_none (by omega), List.getElem?_eq_none (by simp; omega)]

def shr (g : Gr) (f : Nat → Nat) (ls : Nat → List Nat) : Gr :=
  ⟨(order g.n (fstV f g.u) g.L (fX g.X ls f)).length, renum (order g.n (fstV f g.u) g.L (fX g.X ls f)) (fstV f g.u), cL (order g.n (fstV f g.u) g.L (fX g.X ls f)) g.L, cK (order g.n (fstV f g.u) g.L (fX g.X ls f)) (sK g.K ls), cX (order g.n (fstV f g.u) g.L (fX g.X ls f)) (fX g.X ls f)⟩

theorem sort_range {k : Nat → V} {l : Nat} {ls : List Nat} (h : SortI k l ls) : SortI (byI k ls) l (List.range l) := by
  refine ⟨List.Perm.refl _, ?_⟩
  have hs := h.sort
  have hl := h.len
  unfold SortW at hs ⊢
  rw [List.pairwise_iff_getElem] at hs ⊢
  intro a b ha hb hab
  simp only [List.length_range] at ha hb
  simp only [List.getElem_range]
  have h1 := hs a b (by omega) (by omega) hab
  have ga : ls.getD a 0 = ls[a] := by rw [List.getD_eq_getElem?_getD, List.getElem?_eq_getElem (by omega)]; rfl
  have gb : ls.getD b 0 = ls[b] := by rw [List.getD_eq_getElem?_getD, List.getElem?_eq_getElem (by omega)]; rfl
  rw [← ga, ← gb] at h1
  exact h1

theorem shr_all {g : Gr} (hg : g.Ok) {f : Nat → Nat} {ls : Nat → List Nat} (hs : ∀ r, r < g.n → SortI (g.K r) (g.L r) (ls r)) (hc : IsCls g.n g.L (sK g.K ls) (sK g.X ls) f) : SameG g (shr g f ls) ∧ Shk (shr g f ls) := by
  have hok := okG_shr hg hs hc.low
  have hok2 := okG_canon hok
  have hord := order_canon hok
  obtain ⟨h1, h2, h3⟩ := order_all hok
  unfold shr
  obtain ⟨S, hS⟩ : ∃ S, order g.n (fstV f g.u) g.L (fX g.X ls f) = S := ⟨_, rfl⟩
  rw [hS] at h1 h2 h3 hok2 hord ⊢
  have hfix : ∀ r ∈ S, f r = r := by
    have key : ∀ (d : Nat) (T : List Nat) (v : V), isV g.n v = true → (∀ r ∈ T, f r = r) → ∀ r ∈ met g.L (fX g.X ls f) d T (fstV f v), f r = r := by
      intro d
      induction d with
      | zero => intro T v _ hT; exact hT
      | succ d ih =>
        intro T v hv hT
        by_cases hn : (fstV f v).k = 4 ∧ (fstV f v).a.toNat ∉ T
        · obtain ⟨h4, hn⟩ := hn
          rw [met_new h4 hn]
          rw [fstV_k] at h4
          obtain ⟨a0, a1⟩ := isV_tab hv h4
          have hv' : v.a.toNat < g.n := by omega
          rw [fstV_a h4]
          have hr := hc.low _ hv'
          have hff := hc.idem _ hv'
          generalize f v.a.toNat = r at *
          have loop : ∀ c, c ≤ g.L r → ∀ q ∈ mets g.L (fX g.X ls f) d (T ++ [r]) (fX g.X ls f r) c, f q = q := by
            intro c
            induction c with
            | zero =>
              intro _ q hq
              rcases List.mem_append.1 hq with hq | hq
              · exact hT q hq
              · obtain rfl := List.mem_singleton.1 hq
                exact hff
            | succ c ihc =>
              intro hcl
              rw [mets_succ]
              exact ih _ _ ((hg.all r (by omega)).all _ ((hs r (by omega)).lt hcl)).val (ihc (by omega))
          exact loop _ (Nat.le_refl _)
        · have o : (fstV f v).k ≠ 4 ∨ (fstV f v).a.toNat ∈ T := by
            by_cases h4 : (fstV f v).k = 4
            · exact Or.inr (Classical.byContradiction fun hh => hn ⟨h4, hh⟩)
            · exact Or.inl h4
          rw [met_old o]
          exact hT
    intro r hr
    rw [← hS] at hr
    exact key _ _ _ hg.root (fun _ h => by cases h) r hr
  have rel : ∀ {x y : V}, isV g.n x = true → isV g.n y = true → alike f x y = true → ((fstV f y).k = 4 → (fstV f y).a.toNat ∈ S) → relV (fun i j => i < g.n ∧ S[j]? = some (f i)) x (renum S (fstV f y)) := fun {x y} hx hy ha hm => by
    obtain ⟨a, b, c⟩ := alike_iff.1 ha
    refine ⟨by rw [renum_k, fstV_k]; exact a, fun h4 => ?_, fun h4 => ?_⟩
    · have h4' := a.symm.trans h4
      obtain ⟨a0, a1⟩ := isV_tab hx h4
      have hm' := hm (by rw [fstV_k]; exact h4')
      refine ⟨by omega, ?_⟩
      unfold renum
      rw [if_pos (by rw [fstV_k]; exact h4')]
      show S[((S.idxOf (fstV f y).a.toNat : Nat) : Int).toNat]? = _
      rw [Int.toNat_natCast, ord_idx hm', fstV_a h4', b h4]
    · have h4' : y.k ≠ 4 := fun e => h4 (a.trans e)
      rw [fstV_ne h4']
      unfold renum
      rw [if_neg h4']
      exact c h4
  have hkb : KB g ⟨S.length, renum S (fstV f g.u), cL S g.L, cK S (sK g.K ls), cX S (fX g.X ls f)⟩ (fun i j => i < g.n ∧ S[j]? = some (f i)) := by
    rintro i j ⟨hi, hj⟩
    obtain ⟨hjl, _⟩ := List.getElem?_eq_some_iff.1 hj
    refine ⟨hi, hjl, ?_⟩
    have e : S.getD j 0 = f i := by rw [List.getD_eq_getElem?_getD, hj]; rfl
    have hm : f i ∈ S := List.mem_of_getElem? hj
    have hr := h1.lt _ hm
    have hff := hfix _ hm
    have hlk := hc.bis i (f i) hi hr hff.symm
    have o2 := hok2.all j hjl
    show ∀ k, relV _ (atKey (g.L i) (g.K i) (g.X i) k) (atKey (cL S g.L j) (cK S (sK g.K ls) j) (cX S (fX g.X ls f) j) k)
    have e1 : cL S g.L j = g.L (f i) := by unfold cL; rw [e]
    have e2 : cK S (sK g.K ls) j = sK g.K ls (f i) := by unfold cK; rw [e]
    have hsj : SortI (cK S (sK g.K ls) j) (cL S g.L j) (List.range (cL S g.L j)) := by
      rw [e1, e2]
      exact sort_range (hs _ hr)
    refine keys_of_pos (hg.all i hi) o2 (hs i hi) hsj (by rw [e1]; exact hlk.len) (fun c hc' => ?_)
    have hlen := hlk.len
    rw [byI_range (by rw [e1]; omega), byI_range (by rw [e1]; omega), e2]
    refine ⟨(hlk.all c hc').1, ?_⟩
    show relV _ _ (renum S (fX g.X ls f (S.getD j 0) c))
    rw [e]
    exact rel ((hg.all i hi).all _ ((hs i hi).lt hc')).val ((hg.all _ hr).all _ ((hs _ hr).lt (by omega))).val (hlk.all c hc').2 (h2 _ hm c (by omega))
  refine ⟨⟨_, hkb, rel hg.root hg.root (alike_refl _ _) h3⟩, ⟨hok2, fun r hr => ?_, hord, fun R hR i j hij => ?_⟩⟩
  · exact sort_range (hs _ (h1.lt _ (ord_mem hr)))
  · obtain ⟨hi, hj, _⟩ := hR i j hij
    have hi : i < S.length := hi
    have hj : j < S.length := hj
    have hb := bis_of_kb hg hs ((hkb.comp hR).comp hkb.symm)
    have mi := ord_mem hi
    have mj := ord_mem hj
    have := hc.wide _ hb (S.getD i 0) (S.getD j 0) ⟨j, ⟨i, ⟨h1.lt _ mi, by rw [hfix _ mi]; exact ord_at hi⟩, hij⟩, ⟨h1.lt _ mj, by rw [hfix _ mj]; exact ord_at hj⟩⟩
    rw [hfix _ mi, hfix _ mj] at this
    exact ord_inj h1.nd (ord_at hi) (by rw [this]; exact ord_at hj)
end

end Go.Proofs.YtgflalfiopnmnaaGreatDoor

namespace Go.Proofs.YtgflalfiopnmnaaGreatDoor
open Vl

def LedV (n tw : Nat) (v v' : V) : Prop := (v.k = 4 → ∃ q, q < tw ∧ v' = ⟨v.k, v.n, v.s, v.a + ((n * q : Nat) : Int)⟩) ∧ (v.k ≠ 4 → v' = v)

structure TurnT (n tw l : Nat) (k x : Nat → V) (l' : Nat) (k' x' : Nat → V) : Prop where
  len : l' = l
  ex : ∃ fr, (0 < l → fr < l) ∧ ∀ c, c < l → k' c = k ((fr + c) % l) ∧ LedV n tw (x ((fr + c) % l)) (x' c)

structure TurnedG (g h : Gr) (tw : Nat) : Prop where
  pos : 0 < tw
  few : g.n * tw ≤ 200
  len : h.n = g.n * tw
  root : LedV g.n tw g.u h.u
  all : ∀ j, j < h.n → TurnT g.n tw (g.L (j % g.n)) (g.K (j % g.n)) (g.X (j % g.n)) (h.L j) (h.K j) (h.X j)

theorem rot_eq {fr l c : Nat} (hf : fr < l) (hc : c < l) : (fr + c) % l = if fr + c < l then fr + c else fr + c - l := by
  split
  · rename_i h
    exact Nat.mod_eq_of_lt h
  · rw [Nat.mod_eq_sub_mod (by omega)]
    exact Nat.mod_eq_of_lt (by omega)
theorem rot_lt {fr l c : Nat} (hc : c < l) : (fr + c) % l < l := Nat.mod_lt _ (by omega)
theorem rot_ne {fr l j c : Nat} (hf : fr < l) (hj : j < c) (hc : c < l) : (fr + j) % l ≠ (fr + c) % l := by
  rw [rot_eq hf hc, rot_eq hf (by omega)]
  split <;> split <;> omega
theorem rot_back {fr l c : Nat} (hf : fr < l) (hc : c < l) : ∃ d, d < l ∧ (fr + d) % l = c := by
  refine ⟨if fr ≤ c then c - fr else c + l - fr, by split <;> omega, ?_⟩
  rw [rot_eq hf (by split <;> omega)]
  split <;> split <;> omega

section
variable {n tw : Nat} {v v' : V}
theorem LedV.kind (h : LedV n tw v v') : v'.k = v.k := by
  by_cases h4 : v.k = 4
  · obtain ⟨q, _, e⟩ := h.1 h4
    rw [e]
  · rw [h.2 h4]
theorem LedV.size (h : LedV n tw v v') : v'.s = v.s ∧ v'.n = v.n := by
  by_cases h4 : v.k = 4
  · obtain ⟨q, _, e⟩ := h.1 h4
    rw [e]
    exact ⟨rfl, rfl⟩
  · rw [h.2 h4]
    exact ⟨rfl, rfl⟩
theorem mul_room {a q : Nat} (ha : a < n) (hq : q < tw) : a + n * q < n * tw := by
  have h1 : n * (q + 1) ≤ n * tw := Nat.mul_le_mul_left _ hq
  rw [Nat.mul_add, Nat.mul_one] at h1
  omega
theorem LedV.tab (h : LedV n tw v v') (hv : isV n v = true) (h4 : v.k = 4) : v'.a.toNat < n * tw ∧ v'.a.toNat % n = v.a.toNat ∧ v.a.toNat < n ∧ 0 ≤ v'.a := by
  obtain ⟨q, hq, e⟩ := h.1 h4
  obtain ⟨a0, a1⟩ := isV_tab hv h4
  have ha : v'.a.toNat = v.a.toNat + n * q := by
    rw [e]
    show (v.a + ((n * q : Nat) : Int)).toNat = _
    omega
  have hr := mul_room (n := n) (tw := tw) (a := v.a.toNat) (by omega) hq
  refine ⟨by omega, ?_, by omega, ?_⟩
  · rw [ha, Nat.add_mul_mod_self_left]
    exact Nat.mod_eq_of_lt (by omega)
  · rw [e]
    show 0 ≤ v.a + ((n * q : Nat) : Int)
    omega
theorem LedV.isV (h : LedV n tw v v') (hv : Vl.isV n v = true) : Vl.isV (n * tw) v' = true := by
  by_cases h4 : v.k = 4
  · obtain ⟨t1, _, t3, t4⟩ := h.tab hv h4
    obtain ⟨q, hq, e⟩ := h.1 h4
    obtain ⟨a0, a1⟩ := isV_tab hv h4
    unfold Vl.isV at hv ⊢
    rw [if_neg (by omega), if_neg (by omega), if_neg (by omega), if_neg (by omega), if_pos h4] at hv
    have h4' : v'.k = 4 := h.kind.trans h4
    rw [if_neg (by omega), if_neg (by omega), if_neg (by omega), if_neg (by omega), if_pos h4']
    simp only [Bool.and_eq_true, beq_iff_eq, decide_eq_true_eq] at hv ⊢
    refine ⟨by rw [h.size.2]; exact hv.1, by rw [h.size.1]; exact hv.2.1, t4, by omega⟩
  · rw [h.2 h4]
    unfold Vl.isV at hv ⊢
    simp only [h4, if_false] at hv ⊢
    exact hv
end

theorem TurnT.ok {n tw l : Nat} {k x : Nat → V} {l' : Nat} {k' x' : Nat → V} (h : TurnT n tw l k x l' k' x') (ho : OkT n l k x) : OkT (n * tw) l' k' x' := by
  obtain ⟨rfl, fr, hf, hc⟩ := h
  refine ⟨ho.len, fun c hcl => ?_⟩
  have hfl := hf (by omega)
  have hr := rot_lt (fr := fr) hcl
  obtain ⟨e1, e2⟩ := hc c hcl
  refine ⟨by rw [e1]; exact (ho.all _ hr).key, e2.isV (ho.all _ hr).val, by rw [e2.kind]; exact (ho.all _ hr).some, fun j hj => ?_⟩
  rw [e1, (hc j (by omega)).1]
  cases e : eqV (k ((fr + j) % l')) (k ((fr + c) % l')) with
  | false => rfl
  | true => exact absurd (eqV_iff.1 e) (Vl.OkT.once ho (rot_lt (by omega)) hr (rot_ne hfl hj hcl))

theorem TurnT.rel {n tw l : Nat} {k x : Nat → V} {l' : Nat} {k' x' : Nat → V} (h : TurnT n tw l k x l' k' x') (ho : OkT n l k x) (z : V) : LedV n tw (atKey l k x z) (atKey l' k' x' z) := by
  have ho' := h.ok ho
  obtain ⟨rfl, fr, hf, hc⟩ := h
  by_cases hz : z ∈ keys k l'
  · obtain ⟨c, hcl, rfl⟩ := Aw.mem_keys.1 hz
    obtain ⟨d, hd, e⟩ := rot_back (hf (by omega)) hcl
    obtain ⟨e1, e2⟩ := hc d hd
    rw [e] at e1 e2
    rw [Aw.atKey_at ho hcl, ← e1, Aw.atKey_at ho' hd]
    exact e2
  · have hz' : z ∉ keys k' l' := fun hm => by
      obtain ⟨c, hcl, rfl⟩ := Aw.mem_keys.1 hm
      exact hz (Aw.mem_keys.2 ⟨_, rot_lt hcl, (hc c hcl).1.symm⟩)
    rw [Aw.atKey_no hz, Aw.atKey_no hz']
    exact ⟨fun e => by simp [zeroV] at e, fun _ => rfl⟩

theorem turned_ok {g h : Gr} {tw : Nat} (hg : g.Ok) (ht : TurnedG g h tw) : h.Ok := by
  refine ⟨by rw [ht.len]; exact ht.few, by rw [ht.len]; exact ht.root.isV hg.root, fun r hr => ?_⟩
  have hr' := hr
  rw [ht.len] at hr' ⊢
  have h0 : 0 < g.n := by
    rcases Nat.eq_zero_or_pos g.n with e | e
    · rw [e, Nat.zero_mul] at hr'; omega
    · exact e
  exact (ht.all r hr).ok (hg.all _ (Nat.mod_lt _ h0))

theorem turned_same {g h : Gr} {tw : Nat} (hg : g.Ok) (ht : TurnedG g h tw) : SameG g h := by
  have up : ∀ {x y : V}, isV g.n x = true → LedV g.n tw x y → relV (fun i j => i < g.n ∧ j < h.n ∧ j % g.n = i) x y := fun {x y} hx hl => by
    refine ⟨hl.kind.symm, fun h4 => ?_, fun h4 => (hl.2 h4).symm⟩
    obtain ⟨t1, t2, t3, _⟩ := hl.tab hx h4
    exact ⟨t3, by rw [ht.len]; exact t1, t2⟩
  refine ⟨fun i j => i < g.n ∧ j < h.n ∧ j % g.n = i, ?_, up hg.root ht.root⟩
  rintro i j ⟨hi, hj, rfl⟩
  refine ⟨hi, hj, fun k => ?_⟩
  exact up (isV_at (hg.all _ hi) k) ((ht.all j hj).rel (hg.all _ hi) k)

end Go.Proofs.YtgflalfiopnmnaaGreatDoor

namespace Go.Proofs.YtgflalfiopnmnaaGreatDoor
open Go.RowKit Vl

theorem ValB.only {w w' : World} {B CB : Nat} {v : V} (h : ValB w B v) (ho : Only (fun k => k = CB) w w') (hne : B ≠ CB) : ValB w' B v := (ho.block B (blk_lt h) hne).trans h
theorem put4_three {w : World} {B : Nat} {v : V} (h : ValB w B v) (a : Int) : ValB (w.setCell ⟨B, 3, none⟩ (.int .i64 a)) B ⟨v.k, v.n, v.s, a⟩ := by
  unfold ValB at h ⊢
  simp [World.setCell, Array.getElem?_modify, h]

set_option maxHeartbeats 2000000 in
set_option maxRecDepth 100000 in
theorem led_any (w : World) (CB : Nat) (ca : Option Addr) (cl cc cb co t : Nat) (v : V) (n tw : Nat) (hn : n ≤ 200) (htw : 0 < tw) (htw2 : tw ≤ 2) (hv : v.k = 4 → 0 ≤ v.a ∧ v.a < n) (h : Rd w CB ca cl cc cb co t) (ht : t ≤ 60000000) :
    Calls Tryz.prog 70 #[.pointer (some ⟨CB, 0, none⟩), .agg #[.int .i64 v.k, .int .i64 v.n, .string v.s, .int .i64 v.a], .int .i64 n, .int .i64 tw] w fun e w' => (∃ v' : V, LedV n tw v v' ∧ e = .returned (.agg #[.int .i64 v'.k, .int .i64 v'.n, .string v'.s, .int .i64 v'.a])) ∧ Rd w' CB ca cl cc cb co (t + 2) ∧ Only (fun k => k = CB) w w' := by
  have hbk := h.blocks
  have A2 := alloc2 w (.cells #[.int .i64 v.k, .int .i64 v.n, .string v.s, .int .i64 v.a] 24) (.cells #[.int .i64 0, .int .i64 0, .string ⟨#[]⟩, .int .i64 0] 24)
  obtain ⟨w0, hw0⟩ : ∃ w0, w0 = (w.alloc (.cells #[.int .i64 v.k, .int .i64 v.n, .string v.s, .int .i64 v.a] 24)).alloc (.cells #[.int .i64 0, .int .i64 0, .string ⟨#[]⟩, .int .i64 0] 24) := ⟨_, rfl⟩
  rw [← hw0] at A2
  have HV0 : Hid (ValB w0 w.heap.size v) := A2.1
  have HZ0 : Hid (ValB w0 (w.heap.size + 1) zeroV) := A2.2.1
  have HO0 : Hid (Only (fun k => k = CB) w w0) := Only.below A2.2.2.2
  have HR0 : Hid (Rd w0 CB ca cl cc cb co t) := h.below A2.2.2.2
  clear A2 h
  obtain ⟨vb, hvb⟩ : ∃ vb, w.heap.size = vb := ⟨_, rfl⟩
  obtain ⟨rb, hrb⟩ : ∃ rb, vb + 1 = rb := ⟨_, rfl⟩
  go_enter Tryz.func70, Tryz.ntmps70
  rw [hvb] at HV0 HZ0 hbk
  rw [hrb] at HZ0
  have lCB : CB < vb := hbk.1
  go_upto_region 1 with fail
  rw [← hw0]
  clear hw0
  try rw [hvb]
  try rw [hrb]
  obtain ⟨c0, c1, c2, c3, c4⟩ := cells4 HV0.out
  obtain ⟨z0, z1, z2, z3, z4⟩ := cells4 HZ0.out
  simp only [zeroV] at z0 z1 z2 z3
  by_cases h4 : v.k = 4
  · obtain ⟨a0, a1⟩ := hv h4
    have H4 : Hid (v.k = 4) := h4
    have hk4 : (v.k == 4) = true := by simp [h4]
    have HA : Hid (0 ≤ v.a ∧ v.a < n) := ⟨a0, a1⟩
    clear h4 hv a0 a1
    go_upto_region 2 with fail
    have hp := pick_r tw (HR0.out.below ((Below.refl _ _).drew)) htw (by omega) (by omega)
    refine wp_region_held_drew (S := fun _ => True) (by kernel_rfl) trivial (fun hHeld => ?_)
    refine wpT (i := 0) (v := .pointer (some ⟨vb, 3, none⟩)) rfl (fun w hSw => ?_) hHeld ?_
    · first | rfl | go_simp
    simp only [Act.put, pz]
    refine wpT (i := 2) (v := .int .i64 (n : Int)) rfl (fun w hSw => ?_) hHeld ?_
    · first | rfl | go_simp
    simp only [Act.put, pz]
    refine wpT (i := 3) (v := .pointer (some ⟨CB, 0, none⟩)) rfl (fun w hSw => ?_) hHeld ?_
    · first | rfl | go_simp
    simp only [Act.put, pz]
    refine wpT (i := 4) (v := .int .i64 (tw : Int)) rfl (fun w hSw => ?_) hHeld ?_
    · first | rfl | go_simp
    simp only [Act.put, pz]
    refine wpAnyH_ready (rs := [1, 5]) (by kernel_rfl) (by simp) ?_
    refine AllReadyH.cons rfl (fun K' hK' => ?_) (AllReadyH.cons rfl (fun K' hK' => ?_) AllReadyH.nil)
    · go_simp
      refine hK'.out _ _ trivial (fun hHeld => ?_)
      clear hK'
      try simp only [Act.put, pz]
      refine wpAnyH_ready (rs := [5]) (by kernel_rfl) (by simp) ?_
      refine AllReadyH.cons rfl (fun K' hK' => ?_) AllReadyH.nil
      go_simp
      refine hp.mono ?_
      rintro e w1 ⟨⟨y, hy, rfl⟩, HR1, HO1⟩
      refine hK'.out _ _ trivial (fun hHeld => ?_)
      clear hK'
      try simp only [Act.put, pz]
      have HV1 : Hid (ValB w1 vb v) := ValB.only (show ValB w0.drew vb v from HV0.out) HO1.out (by omega)
      have HZ1 : Hid (ValB w1 rb zeroV) := ValB.only (show ValB w0.drew rb zeroV from HZ0.out) HO1.out (by omega)
      have HOw : Hid (Only (fun k => k = CB) w w1) := HO0.out.trans (Only.trans (Only.below ((Below.refl _ _).drew)) HO1.out)
      obtain ⟨m, hm⟩ : ∃ m, n * y = m := ⟨_, rfl⟩
      have hml : m ≤ 400 := by rw [← hm]; exact Nat.le_trans (Nat.mul_le_mul hn (show y ≤ 2 by omega)) (by omega)
      have hmz : (n : Int) * (y : Int) = (m : Int) := by rw [← hm, Int.natCast_mul]
      obtain ⟨va, hva⟩ : ∃ va : Int, v.a + (m : Int) = va := ⟨_, rfl⟩
      have hwm : IntKind.i64.wrap ((n : Int) * (y : Int)) = (m : Int) := by rw [hmz, IntKind.wrap_i64]; omega
      have hwa : IntKind.i64.wrap (v.a + (m : Int)) = va := by have := HA.out; rw [hva, IntKind.wrap_i64]; omega
      have HM : Hid (n * y = m) := hm
      have HVA : Hid (v.a + (m : Int) = va) := hva
      clear hm hmz hva c0 c1 c2 c3 c4 z0 z1 z2 z3 z4
      obtain ⟨c0, c1, c2, c3, c4⟩ := cells4 HV1.out
      refine wpT (i := 6) (v := .int .i64 (m : Nat)) rfl (fun w hSw => ?_) hHeld ?_
      · go_simp
      simp only [Act.put, pz]
      refine wpT (i := 7) (v := .int .i64 va) rfl (fun w hSw => ?_) hHeld ?_
      · go_simp
      simp only [Act.put, pz]
      refine wpT (i := 8) (v := .pointer (some ⟨vb, 3, none⟩)) rfl (fun w hSw => ?_) hHeld ?_
      · first | rfl | go_simp
      simp only [Act.put, pz]
      refine wpAnyH_ready (rs := [9]) (by kernel_rfl) (by simp) ?_
      refine AllReadyH.cons rfl (fun K' hK' => ?_) AllReadyH.nil
      go_simp
      refine hK'.out _ _ trivial (fun hHeld => ?_)
      clear hK'
      clear hHeld
      obtain ⟨w2, hw2⟩ : ∃ w2, w2 = w1.setCell ⟨vb, 3, none⟩ (.int .i64 va) := ⟨_, rfl⟩
      have HV2 : Hid (ValB w2 vb ⟨v.k, v.n, v.s, va⟩) := by rw [hw2]; exact put4_three HV1.out va
      have ho2 : Only (fun k => k = vb) w1 w2 := by rw [hw2]; exact (Only.refl (fun k => k = vb) w1).set (p := ⟨vb, 3, none⟩) rfl _
      have HZ2 : Hid (ValB w2 rb zeroV) := (ho2.block rb (blk_lt HZ1.out) (by omega)).trans HZ1.out
      have HR2 : Hid (Rd w2 CB ca cl cc cb co (t + 2)) := HR1.out.keep (ho2.toBelow (base := vb) (fun k e => by omega) (by have := blk_lt HV1.out; omega)) (by omega) (fun h => by have := hbk.2 h; omega)
      have HO2 : Hid (Only (fun k => k = CB) w w2) := HOw.out.then ho2 (fun j hj e => by omega)
      rw [← hw2]
      clear hw2 ho2 c0 c1 c2 c3 c4
      obtain ⟨c0, c1, c2, c3, c4⟩ := cells4 HV2.out
      obtain ⟨z0, z1, z2, z3, z4⟩ := cells4 HZ2.out
      simp only [zeroV] at z0 z1 z2 z3
      simp only at c0 c1 c2 c3
      refine wpAnyH_done (by kernel_rfl) ?_ _
      go_wp2
      have Q := put4r HZ2.out (.int .i64 v.k) (.int .i64 v.n) (.string v.s) (.int .i64 va)
      obtain ⟨q0, q1, q2, q3, _⟩ := cells4 Q
      refine bodyPost_ret (v := .agg #[.int .i64 v.k, .int .i64 v.n, .string v.s, .int .i64 va]) (by simp [results, Tryz.results70, go_sem, q0, q1, q2, q3]) rfl ⟨⟨⟨v.k, v.n, v.s, va⟩, ⟨fun _ => ⟨y, hy, by rw [HM.out, HVA.out]⟩, fun e => absurd H4.out e⟩, rfl⟩, ?_, ?_⟩
      · exact HR2.out.keep (set4_only.toBelow (base := rb) (fun k e => by omega) (by have := blk_lt HZ2.out; omega)) (by omega) (fun h => by have := hbk.2 h; omega)
      · exact HO2.out.then set4_only (fun j hj e => by omega)
    · go_simp
      refine hp.mono ?_
      rintro e w1 ⟨⟨y, hy, rfl⟩, HR1, HO1⟩
      refine hK'.out _ _ trivial (fun hHeld => ?_)
      clear hK'
      try simp only [Act.put, pz]
      have HV1 : Hid (ValB w1 vb v) := ValB.only (show ValB w0.drew vb v from HV0.out) HO1.out (by omega)
      have HZ1 : Hid (ValB w1 rb zeroV) := ValB.only (show ValB w0.drew rb zeroV from HZ0.out) HO1.out (by omega)
      have HOw : Hid (Only (fun k => k = CB) w w1) := HO0.out.trans (Only.trans (Only.below ((Below.refl _ _).drew)) HO1.out)
      obtain ⟨m, hm⟩ : ∃ m, n * y = m := ⟨_, rfl⟩
      have hml : m ≤ 400 := by rw [← hm]; exact Nat.le_trans (Nat.mul_le_mul hn (show y ≤ 2 by omega)) (by omega)
      have hmz : (n : Int) * (y : Int) = (m : Int) := by rw [← hm, Int.natCast_mul]
      obtain ⟨va, hva⟩ : ∃ va : Int, v.a + (m : Int) = va := ⟨_, rfl⟩
      have hwm : IntKind.i64.wrap ((n : Int) * (y : Int)) = (m : Int) := by rw [hmz, IntKind.wrap_i64]; omega
      have hwa : IntKind.i64.wrap (v.a + (m : Int)) = va := by have := HA.out; rw [hva, IntKind.wrap_i64]; omega
      have HM : Hid (n * y = m) := hm
      have HVA : Hid (v.a + (m : Int) = va) := hva
      clear hm hmz hva c0 c1 c2 c3 c4 z0 z1 z2 z3 z4
      obtain ⟨c0, c1, c2, c3, c4⟩ := cells4 HV1.out
      refine wpT (i := 6) (v := .int .i64 (m : Nat)) rfl (fun w hSw => ?_) hHeld ?_
      · go_simp
      simp only [Act.put, pz]
      refine wpAnyH_ready (rs := [1]) (by kernel_rfl) (by simp) ?_
      refine AllReadyH.cons rfl (fun K' hK' => ?_) AllReadyH.nil
      go_simp
      refine hK'.out _ _ trivial (fun hHeld => ?_)
      clear hK'
      try simp only [Act.put, pz]
      refine wpT (i := 7) (v := .int .i64 va) rfl (fun w hSw => ?_) hHeld ?_
      · go_simp
      simp only [Act.put, pz]
      refine wpT (i := 8) (v := .pointer (some ⟨vb, 3, none⟩)) rfl (fun w hSw => ?_) hHeld ?_
      · first | rfl | go_simp
      simp only [Act.put, pz]
      refine wpAnyH_ready (rs := [9]) (by kernel_rfl) (by simp) ?_
      refine AllReadyH.cons rfl (fun K' hK' => ?_) AllReadyH.nil
      go_simp
      refine hK'.out _ _ trivial (fun hHeld => ?_)
      clear hK'
      clear hHeld
      obtain ⟨w2, hw2⟩ : ∃ w2, w2 = w1.setCell ⟨vb, 3, none⟩ (.int .i64 va) := ⟨_, rfl⟩
      have HV2 : Hid (ValB w2 vb ⟨v.k, v.n, v.s, va⟩) := by rw [hw2]; exact put4_three HV1.out va
      have ho2 : Only (fun k => k = vb) w1 w2 := by rw [hw2]; exact (Only.refl (fun k => k = vb) w1).set (p := ⟨vb, 3, none⟩) rfl _
      have HZ2 : Hid (ValB w2 rb zeroV) := (ho2.block rb (blk_lt HZ1.out) (by omega)).trans HZ1.out
      have HR2 : Hid (Rd w2 CB ca cl cc cb co (t + 2)) := HR1.out.keep (ho2.toBelow (base := vb) (fun k e => by omega) (by have := blk_lt HV1.out; omega)) (by omega) (fun h => by have := hbk.2 h; omega)
      have HO2 : Hid (Only (fun k => k = CB) w w2) := HOw.out.then ho2 (fun j hj e => by omega)
      rw [← hw2]
      clear hw2 ho2 c0 c1 c2 c3 c4
      obtain ⟨c0, c1, c2, c3, c4⟩ := cells4 HV2.out
      obtain ⟨z0, z1, z2, z3, z4⟩ := cells4 HZ2.out
      simp only [zeroV] at z0 z1 z2 z3
      simp only at c0 c1 c2 c3
      refine wpAnyH_done (by kernel_rfl) ?_ _
      go_wp2
      have Q := put4r HZ2.out (.int .i64 v.k) (.int .i64 v.n) (.string v.s) (.int .i64 va)
      obtain ⟨q0, q1, q2, q3, _⟩ := cells4 Q
      refine bodyPost_ret (v := .agg #[.int .i64 v.k, .int .i64 v.n, .string v.s, .int .i64 va]) (by simp [results, Tryz.results70, go_sem, q0, q1, q2, q3]) rfl ⟨⟨⟨v.k, v.n, v.s, va⟩, ⟨fun _ => ⟨y, hy, by rw [HM.out, HVA.out]⟩, fun e => absurd H4.out e⟩, rfl⟩, ?_, ?_⟩
      · exact HR2.out.keep (set4_only.toBelow (base := rb) (fun k e => by omega) (by have := blk_lt HZ2.out; omega)) (by omega) (fun h => by have := hbk.2 h; omega)
      · exact HO2.out.then set4_only (fun j hj e => by omega)
  · have hk4 : (v.k == 4) = false := by simp [h4]
    have HL : Hid (LedV n tw v v) := ⟨fun e => absurd e h4, fun _ => rfl⟩
    clear h4 hv
    go_wp2
    have Q := put4r HZ0.out (.int .i64 v.k) (.int .i64 v.n) (.string v.s) (.int .i64 v.a)
    obtain ⟨q0, q1, q2, q3, _⟩ := cells4 Q
    refine bodyPost_ret (v := .agg #[.int .i64 v.k, .int .i64 v.n, .string v.s, .int .i64 v.a]) (by simp [results, Tryz.results70, go_sem, q0, q1, q2, q3]) rfl ⟨⟨v, HL.out, rfl⟩, ?_, ?_⟩
    · exact (HR0.out.keep (set4_only.toBelow (base := rb) (fun k e => by omega) (by have := blk_lt HZ0.out; omega)) (by omega) (fun h => by have := hbk.2 h; omega)).mono (by omega)
    · exact HO0.out.then set4_only (fun j hj e => by omega)

end Go.Proofs.YtgflalfiopnmnaaGreatDoor
